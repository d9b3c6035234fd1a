package bourse

import (
	"slices"
	"testing"
)

// checkShape holds a book to Ways, 'Heap, lists'.
func checkShape(t *testing.T, b *Book) {
	t.Helper()
	count := 0
	for side, h := range map[int]*half{Buy: &b.buys, Sell: &b.sells} {
		prices := map[int]int{}
		for i, l := range h.levels {
			prices[l.price]++
			if i > 0 && h.Less(i, (i-1)/2) {
				t.Fatalf("Ways: side %d is no heap: %d stands below %d", side, l.price, h.levels[(i-1)/2].price)
			}
			count += len(checkList(t, b, side, l))
		}
		if len(prices) != len(h.levels) {
			t.Fatalf("Ways: side %d has two levels of one price: %v", side, prices)
		}
	}
	if count != len(b.orders) {
		t.Fatalf("Ways: %d orders stand in lists, %d rest", count, len(b.orders))
	}
}

// checkList walks a level both ways, and answers its orders.
func checkList(t *testing.T, b *Book, side int, l *level) []*order {
	t.Helper()
	var forth, back []*order
	for o := l.first; o != nil && len(forth) < 100; o = o.behind {
		forth = append(forth, o)
		if b.orders[o.id] != o || o.side != side || o.price != l.price || o.qty <= 0 {
			t.Fatalf("Ways: %v stands at %d of side %d", *o, l.price, side)
		}
	}
	for o := l.last; o != nil && len(back) < 100; o = o.ahead {
		back = append(back, o)
	}
	slices.Reverse(back)
	if len(forth) == 0 || !slices.Equal(forth, back) {
		t.Fatalf("Ways: the list at %d has %d orders forth, %d back", l.price, len(forth), len(back))
	}
	return forth
}

func TestBestPriceOfEachOrderOfComing(t *testing.T) {
	for n := range 120 {
		buys, sells := half{side: Buy}, half{side: Sell}
		for i, price := range permutation(5, n) {
			buys.add(&order{id: i, side: Buy, price: price + 1, qty: 1})
			sells.add(&order{id: i, side: Sell, price: price + 1, qty: 1})
		}
		for k := range 5 {
			if p := buys.best().price; p != 5-k {
				t.Errorf("P5: order of coming %d: the best price to buy is %d", n, p)
			}
			if p := sells.best().price; p != k+1 {
				t.Errorf("P5: order of coming %d: the best price to sell is %d", n, p)
			}
			buys.remove(buys.best().first)
			sells.remove(sells.best().first)
		}
		if buys.meets(1) || sells.meets(99) || buys.Len() != 0 || sells.Len() != 0 {
			t.Errorf("P5: order of coming %d: something rests still", n)
		}
	}
}

// permutation answers the n-th order of the numbers below size.
func permutation(size, n int) []int {
	left := make([]int, size)
	for i := range left {
		left[i] = i
	}
	var list []int
	for k := size; k > 0; k-- {
		list = append(list, left[n%k])
		left = slices.Delete(left, n%k, n%k+1)
		n /= k
	}
	return list
}

func TestListGivesBackOrdersInEachTurn(t *testing.T) {
	for n := range 24 {
		l := level{price: 10}
		orders := make([]*order, 4)
		for i := range orders {
			orders[i] = &order{id: i, price: 10, qty: i + 1}
			l.add(orders[i])
		}
		kept := slices.Clone(orders)
		for _, i := range permutation(4, n) {
			l.remove(orders[i])
			kept = slices.DeleteFunc(kept, func(o *order) bool { return o == orders[i] })
			var forth, back []*order
			sum := 0
			for o := l.first; o != nil; o = o.behind {
				forth = append(forth, o)
				sum += o.qty
			}
			for o := l.last; o != nil; o = o.ahead {
				back = append(back, o)
			}
			slices.Reverse(back)
			if !slices.Equal(forth, kept) || !slices.Equal(back, kept) || l.count() != len(kept) || l.qty() != sum {
				t.Errorf("Ways: turn %d: %d orders, %d in all, are left in the list", n, l.count(), l.qty())
			}
			if orders[i].ahead != nil || orders[i].behind != nil {
				t.Errorf("Ways: turn %d: an order that rests no more has neighbours", n)
			}
		}
	}
}
