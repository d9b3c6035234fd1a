package bourse

const (
	maxId      = 99
	maxPrice   = 99
	maxQty     = 99
	maxClients = 4
)

// fair tells whether a command's numbers may stand together (P3).
func fair(c Command) bool {
	if !isClient(c.Client) || !within(c.Id, 0, maxId) {
		return false
	}
	switch c.Kind {
	case Limit, Now, Whole:
		return isSide(c.Side) && isPrice(c.Price) && isQty(c.Qty)
	case Market:
		return isSide(c.Side) && c.Price == 0 && isQty(c.Qty)
	case Cancel:
		return c.Side == 0 && c.Price == 0 && c.Qty == 0
	case Replace:
		return c.Side == 0 && isPrice(c.Price) && isQty(c.Qty)
	}
	return false
}

func isClient(client int) bool { return within(client, 0, maxClients-1) }

func isSide(side int) bool { return side == Buy || side == Sell }

func isPrice(price int) bool { return within(price, 1, maxPrice) }

func isQty(qty int) bool { return within(qty, 1, maxQty) }

func within(n, low, high int) bool { return low <= n && n <= high }
