package bourse

import "slices"

// How many orders may rest in a book.
const maxOrders = 12

// Book is orders that rest. Make it by New.
type Book struct {
	orders      map[int]*order // by their numbers
	buys, sells half
}

// New makes a book (P2).
func New() *Book {
	return &Book{
		orders: map[int]*order{},
		buys:   half{side: Buy},
		sells:  half{side: Sell},
	}
}

// Do does a command (P3 to P7).
func (b *Book) Do(c Command) []Event {
	if err := b.refusal(c); err != OK {
		return []Event{rejected(c, err)}
	}
	return append([]Event{accepted(c)}, b.done(c)...)
}

// Depth tells what rests on a side (P8).
func (b *Book) Depth(side int) []Level {
	if !isSide(side) {
		return nil
	}
	h := b.half(side)
	var told []Level
	for _, l := range h.levels {
		told = append(told, Level{Price: l.price, Qty: l.qty(), Orders: l.count()})
	}
	slices.SortFunc(told, func(x, y Level) int { return h.compare(x.Price, y.Price) })
	return told
}

// Left tells what is left of an order (P8).
func (b *Book) Left(id int) (int, Errno) {
	o, there := b.orders[id]
	if !there {
		return 0, ErrNone
	}
	return o.qty, OK
}

// refusal answers why a command is rejected, or OK (P4).
func (b *Book) refusal(c Command) Errno {
	if !fair(c) {
		return ErrArg
	}
	o, there := b.orders[c.Id]
	if c.Kind == Cancel || c.Kind == Replace {
		if !there || o.client != c.Client {
			return ErrNone
		}
		return OK
	}
	if there {
		return ErrThere
	}
	if c.Kind == Limit && len(b.orders) >= maxOrders {
		return ErrFull
	}
	return OK
}

// done does a command that is not rejected, and answers what is told behind
// Accepted (P6, P7).
func (b *Book) done(c Command) []Event {
	switch c.Kind {
	case Limit:
		return b.comeToRest(orderOf(c))
	case Whole:
		return b.comeWhole(orderOf(c))
	case Cancel:
		return b.cancel(b.orders[c.Id])
	case Replace:
		return b.replace(b.orders[c.Id], c.Price, c.Qty)
	}
	return b.comeAndGo(orderOf(c))
}

func (b *Book) comeToRest(o *order) []Event {
	told := b.trade(o)
	if o.qty == 0 {
		return told
	}
	b.add(o)
	return append(told, rests(o))
}

func (b *Book) comeAndGo(o *order) []Event {
	told := b.trade(o)
	if o.qty == 0 {
		return told
	}
	return append(told, canceled(o))
}

func (b *Book) comeWhole(o *order) []Event {
	if b.half(other(o.side)).supply(o.price) < o.qty {
		return []Event{canceled(o)}
	}
	return b.comeAndGo(o)
}

func (b *Book) cancel(o *order) []Event {
	b.remove(o)
	return []Event{canceled(o)}
}

func (b *Book) replace(o *order, price, qty int) []Event {
	if price == o.price && qty <= o.qty {
		o.qty = qty
		return []Event{rests(o)}
	}
	b.remove(o)
	return b.comeToRest(&order{client: o.client, id: o.id, side: o.side, price: price, qty: qty})
}

// trade lets an order that comes trade with those that it meets (P5).
func (b *Book) trade(o *order) []Event {
	h := b.half(other(o.side))
	var told []Event
	for o.qty > 0 && h.meets(o.price) {
		told = append(told, b.tradeWith(o, h.best().first)...)
	}
	if o.qty == 0 {
		told = append(told, filled(o))
	}
	return told
}

// tradeWith lets an order that comes trade with one that rests.
func (b *Book) tradeWith(o, r *order) []Event {
	qty := min(o.qty, r.qty)
	o.qty -= qty
	r.qty -= qty
	told := []Event{traded(o, r.id, r.price, qty), traded(r, o.id, r.price, qty)}
	if r.qty == 0 {
		b.remove(r)
		told = append(told, filled(r))
	}
	return told
}

func (b *Book) add(o *order) {
	b.orders[o.id] = o
	b.half(o.side).add(o)
}

func (b *Book) remove(o *order) {
	delete(b.orders, o.id)
	b.half(o.side).remove(o)
}

func (b *Book) half(side int) *half {
	if side == Buy {
		return &b.buys
	}
	return &b.sells
}

func other(side int) int {
	if side == Buy {
		return Sell
	}
	return Buy
}
