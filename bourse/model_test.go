package bourse

import (
	"fmt"
	"math/rand/v2"
	"slices"
	"testing"
)

// model is a book kept as plainly as P4 to P8 are worded: one list of all that
// rest, those that came to rest first ahead. Books are held against it.
type model struct{ resting []modelOrder }

type modelOrder struct{ client, id, side, price, qty int }

func (m *model) place(id int) int {
	return slices.IndexFunc(m.resting, func(o modelOrder) bool { return o.id == id })
}

func (m *model) do(c Command) []Event {
	if err := m.refusal(c); err != 0 {
		return []Event{{2, c.Client, c.Id, err, 0, 0}}
	}
	told := []Event{{1, c.Client, c.Id, 0, 0, 0}}
	switch c.Kind {
	case 1:
		return append(told, m.comeToRest(modelOrder{c.Client, c.Id, c.Side, c.Price, c.Qty})...)
	case 2, 3:
		return append(told, m.comeAndGo(c)...)
	case 4:
		if m.together(c) < c.Qty {
			return append(told, Event{5, c.Client, c.Id, 0, 0, c.Qty})
		}
		return append(told, m.comeAndGo(c)...)
	}
	k := m.place(c.Id)
	o := m.resting[k]
	if c.Kind == 6 && c.Price == o.price && c.Qty <= o.qty {
		m.resting[k].qty = c.Qty
		return append(told, Event{6, o.client, o.id, 0, o.price, c.Qty})
	}
	m.resting = slices.Delete(m.resting, k, k+1)
	if c.Kind == 5 {
		return append(told, Event{5, o.client, o.id, 0, 0, o.qty})
	}
	return append(told, m.comeToRest(modelOrder{o.client, o.id, o.side, c.Price, c.Qty})...)
}

func (m *model) refusal(c Command) int {
	if !wantFair(c) {
		return 2
	}
	k := m.place(c.Id)
	switch {
	case c.Kind >= 5 && (k < 0 || m.resting[k].client != c.Client):
		return 4
	case c.Kind < 5 && k >= 0:
		return 3
	case c.Kind == 1 && len(m.resting) >= 12:
		return 5
	}
	return 0
}

func (m *model) comeToRest(o modelOrder) []Event {
	told, left := m.trade(Command{1, o.client, o.id, o.side, o.price, o.qty})
	if left == 0 {
		return told
	}
	o.qty = left
	m.resting = append(m.resting, o)
	return append(told, Event{6, o.client, o.id, 0, o.price, o.qty})
}

func (m *model) comeAndGo(c Command) []Event {
	told, left := m.trade(c)
	if left == 0 {
		return told
	}
	return append(told, Event{5, c.Client, c.Id, 0, 0, left})
}

// meets: kind 2 at any price; to buy at its price or below, to sell at its price or above.
func (m *model) meets(c Command, o modelOrder) bool {
	if c.Side == o.side {
		return false
	}
	return c.Kind == 2 || c.Side == 1 && o.price <= c.Price || c.Side == 2 && o.price >= c.Price
}

func (m *model) together(c Command) int {
	sum := 0
	for _, o := range m.resting {
		if m.meets(c, o) {
			sum += o.qty
		}
	}
	return sum
}

// best answers where the one stands with which c trades next, or -1.
func (m *model) best(c Command) int {
	best := -1
	for k, o := range m.resting {
		if !m.meets(c, o) {
			continue
		}
		if best < 0 || c.Side == 1 && o.price < m.resting[best].price || c.Side == 2 && o.price > m.resting[best].price {
			best = k
		}
	}
	return best
}

func (m *model) trade(c Command) ([]Event, int) {
	var told []Event
	left := c.Qty
	for left > 0 {
		k := m.best(c)
		if k < 0 {
			return told, left
		}
		o := &m.resting[k]
		n := min(left, o.qty)
		left -= n
		o.qty -= n
		told = append(told, Event{3, c.Client, c.Id, o.id, o.price, n}, Event{3, o.client, o.id, c.Id, o.price, n})
		if o.qty == 0 {
			told = append(told, Event{4, o.client, o.id, 0, 0, 0})
			m.resting = slices.Delete(m.resting, k, k+1)
		}
	}
	return append(told, Event{4, c.Client, c.Id, 0, 0, 0}), 0
}

func (m *model) depth(side int) []Level {
	var levels []Level
	for price := 1; price <= 99; price++ {
		l := Level{Price: price}
		for _, o := range m.resting {
			if o.side == side && o.price == price {
				l.Qty += o.qty
				l.Orders++
			}
		}
		if l.Orders > 0 {
			levels = append(levels, l)
		}
	}
	if side == 1 {
		slices.Reverse(levels)
	}
	return levels
}

func (m *model) left(id int) (int, Errno) {
	if k := m.place(id); k >= 0 {
		return m.resting[k].qty, 0
	}
	return 0, 4
}

// someCommand makes a command of which most are fair and most meet others:
// prices lie within width, quantities within most.
func someCommand(r *rand.Rand, width, most int) Command {
	kinds := []int{1, 1, 1, 1, 1, 2, 3, 3, 4, 4, 5, 6, 6, 6}
	c := Command{
		Kind: kinds[r.IntN(len(kinds))], Client: r.IntN(4), Id: r.IntN(20),
		Side: 1 + r.IntN(2), Price: 50 - width/2 + r.IntN(width), Qty: 1 + r.IntN(most),
	}
	switch c.Kind {
	case 2:
		c.Price = 0
	case 5:
		c.Side, c.Price, c.Qty = 0, 0, 0
	case 6:
		c.Side = 0
	}
	if r.IntN(25) == 0 {
		numbers := numbersOf(c)
		numbers[r.IntN(6)] = []int{-1, 0, 3, 4, 7, 99, 100, 1 << 40}[r.IntN(8)]
		c = commandOf(numbers)
	}
	return c
}

// someCommandOf has a client ask for its own orders more often than chance would.
func someCommandOf(r *rand.Rand, m *model, width, most int) Command {
	c := someCommand(r, width, most)
	if (c.Kind == 5 || c.Kind == 6) && len(m.resting) > 0 && r.IntN(4) > 0 {
		o := m.resting[r.IntN(len(m.resting))]
		c.Client, c.Id = o.client, o.id
		if c.Kind == 6 && r.IntN(2) == 0 {
			c.Price = o.price
		}
	}
	return c
}

func checkAgainstModel(t *testing.T, b *Book, m *model, c Command) {
	t.Helper()
	want := m.do(c)
	if got := b.Do(c); !slices.Equal(got, want) {
		t.Fatalf("P3 to P7: Do(%v) = %v, want %v", c, got, want)
	}
	for _, side := range []int{1, 2} {
		if got, want := b.Depth(side), m.depth(side); !slices.Equal(got, want) {
			t.Fatalf("P8: behind %v Depth(%d) = %v, want %v", c, side, got, want)
		}
	}
	for id := -1; id <= 100; id++ {
		got, err := b.Left(id)
		want, wantErr := m.left(id)
		if got != want || err != wantErr {
			t.Fatalf("P8: behind %v Left(%d) = %d, %d, want %d, %d", c, id, got, err, want, wantErr)
		}
	}
	checkShape(t, b)
}

func TestBooksAgainstTheModel(t *testing.T) {
	for _, width := range []int{1, 2, 4, 12, 98} {
		for _, most := range []int{1, 4, 12, 99} {
			t.Run(fmt.Sprint(width, "prices", most, "qty"), func(t *testing.T) {
				for seed := range uint64(25) {
					r := rand.New(rand.NewPCG(seed, uint64(100*width+most)))
					b, m := New(), &model{}
					for range 120 {
						checkAgainstModel(t, b, m, someCommandOf(r, m, width, most))
					}
				}
			})
		}
	}
}

// Every list of a few commands out of a few, so that no turn of small books is left to chance.
func TestEverySmallBookAgainstTheModel(t *testing.T) {
	commands := []Command{
		{1, 0, 1, 1, 10, 2}, {1, 0, 2, 1, 10, 1}, {1, 1, 3, 2, 10, 2}, {1, 1, 4, 2, 11, 1},
		{2, 2, 5, 1, 0, 2}, {3, 2, 6, 2, 10, 3}, {4, 2, 7, 1, 11, 3}, {5, 0, 1, 0, 0, 0},
		{6, 0, 1, 0, 10, 1}, {6, 0, 1, 0, 11, 2}, {6, 1, 3, 0, 10, 3},
	}
	var list [5]int
	for n := range len(commands) * len(commands) * len(commands) * len(commands) * len(commands) {
		rest := n
		for i := range list {
			list[i] = rest % len(commands)
			rest /= len(commands)
		}
		b, m := New(), &model{}
		for _, k := range list {
			want := m.do(commands[k])
			if got := b.Do(commands[k]); !slices.Equal(got, want) {
				t.Fatalf("P3 to P7: list %v: Do(%v) = %v, want %v", list, commands[k], got, want)
			}
		}
		for _, side := range []int{1, 2} {
			if got, want := b.Depth(side), m.depth(side); !slices.Equal(got, want) {
				t.Fatalf("P8: list %v: Depth(%d) = %v, want %v", list, side, got, want)
			}
		}
	}
}
