package bourse

// order is an order that comes or rests. While it rests, it stands in the list
// of its level.
type order struct {
	client, id, side, price, qty int
	ahead, behind                *order
}

// orderOf answers the order that comes with a command.
func orderOf(c Command) *order {
	return &order{client: c.Client, id: c.Id, side: c.Side, price: farthest(c), qty: c.Qty}
}

// farthest answers the worst price that a command allows. Market allows any,
// and so has the price that none is beyond.
func farthest(c Command) int {
	if c.Kind == Market && c.Side == Buy {
		return maxPrice
	}
	return c.Price
}

// level is the orders of one side that rest at one price, in a list that goes
// both ways: the one that came to rest first is ahead of all.
type level struct {
	price       int
	first, last *order
}

func (l *level) add(o *order) {
	o.ahead = l.last
	if l.last == nil {
		l.first = o
	} else {
		l.last.behind = o
	}
	l.last = o
}

func (l *level) remove(o *order) {
	if o.ahead == nil {
		l.first = o.behind
	} else {
		o.ahead.behind = o.behind
	}
	if o.behind == nil {
		l.last = o.ahead
	} else {
		o.behind.ahead = o.ahead
	}
	o.ahead, o.behind = nil, nil
}

func (l *level) qty() int {
	sum := 0
	for o := l.first; o != nil; o = o.behind {
		sum += o.qty
	}
	return sum
}

func (l *level) count() int {
	n := 0
	for o := l.first; o != nil; o = o.behind {
		n++
	}
	return n
}
