package bourse

import (
	"cmp"
	"container/heap"
	"slices"
)

// half is the orders of one side that rest. Its levels are a heap, the best
// price on top; none of them is empty, and no two have one price.
type half struct {
	side   int
	levels []*level
}

// Len, Less, Swap, Push and Pop are what container/heap asks for.
func (h *half) Len() int { return len(h.levels) }

func (h *half) Less(i, j int) bool {
	return h.compare(h.levels[i].price, h.levels[j].price) < 0
}

func (h *half) Swap(i, j int) {
	h.levels[i], h.levels[j] = h.levels[j], h.levels[i]
}

func (h *half) Push(x any) { h.levels = append(h.levels, x.(*level)) }

func (h *half) Pop() any {
	last := len(h.levels) - 1
	l := h.levels[last]
	h.levels[last] = nil
	h.levels = h.levels[:last]
	return l
}

// compare is below 0 if price x is better than y, above 0 if it is worse.
func (h *half) compare(x, y int) int {
	if h.side == Buy {
		return cmp.Compare(y, x)
	}
	return cmp.Compare(x, y)
}

func (h *half) best() *level { return h.levels[0] }

// meets tells whether an order of the other side that comes with this price
// meets one of these (P5).
func (h *half) meets(price int) bool {
	return len(h.levels) > 0 && h.allows(price, h.best().price)
}

// supply answers how much all those have that such an order meets.
func (h *half) supply(price int) int {
	sum := 0
	for _, l := range h.levels {
		if h.allows(price, l.price) {
			sum += l.qty()
		}
	}
	return sum
}

// allows tells whether such an order trades with one that rests at a price.
func (h *half) allows(price, resting int) bool { return h.compare(resting, price) <= 0 }

func (h *half) add(o *order) {
	i := h.find(o.price)
	if i < 0 {
		l := &level{price: o.price}
		l.add(o)
		heap.Push(h, l)
		return
	}
	h.levels[i].add(o)
}

func (h *half) remove(o *order) {
	i := h.find(o.price)
	h.levels[i].remove(o)
	if h.levels[i].first == nil {
		heap.Remove(h, i)
	}
}

// find answers where the level of a price stands, or -1. There are so few
// levels that looking at each is quick.
func (h *half) find(price int) int {
	return slices.IndexFunc(h.levels, func(l *level) bool { return l.price == price })
}
