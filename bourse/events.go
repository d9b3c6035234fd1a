package bourse

func accepted(c Command) Event {
	return Event{Kind: Accepted, Client: c.Client, Id: c.Id}
}

func rejected(c Command, err Errno) Event {
	return Event{Kind: Rejected, Client: c.Client, Id: c.Id, Other: int(err)}
}

// traded is what is told to one of the two orders of a trade.
func traded(o *order, with, price, qty int) Event {
	return Event{Kind: Trade, Client: o.client, Id: o.id, Other: with, Price: price, Qty: qty}
}

func filled(o *order) Event {
	return Event{Kind: Filled, Client: o.client, Id: o.id}
}

func canceled(o *order) Event {
	return Event{Kind: Canceled, Client: o.client, Id: o.id, Qty: o.qty}
}

func rests(o *order) Event {
	return Event{Kind: Rests, Client: o.client, Id: o.id, Price: o.price, Qty: o.qty}
}
