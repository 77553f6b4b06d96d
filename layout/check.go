package layout

import (
	"slices"

	"quicksilver/api"
)

// errorOfSizes returns the error of how many orders, data, lines, paths and items there are.
func errorOfSizes(t api.LaTask) api.Errno {
	switch {
	case !within(1, api.MaxLaOrders, len(t.Orders)) || len(t.Paths) > api.MaxLaPaths:
		return api.ErrLong
	case !within(0, api.MaxLaData, t.Data) || !within(1, api.OrLines, t.Lines):
		return api.ErrRange
	case len(t.Orders)+t.Data > t.Lines*api.OrPlaces:
		return api.ErrLong
	}
	return api.OK
}

// errorOfOrder returns the error of an order.
func (p *plan) errorOfOrder(o api.LaOrder) api.Errno {
	if !within(api.OrHalt, api.OrPrint, o.Op) {
		return api.ErrArg
	}
	if _, there := p.withItems(o); !there {
		return api.ErrNone
	}
	return api.OK
}

// errorOfPath returns the error of a path, if the orders have none.
func (p *plan) errorOfPath(path api.LaPath) api.Errno {
	if !within(1, api.MaxLaPath, len(path.Orders)) {
		return api.ErrLong
	}
	if !within(1, api.MaxLaCount, path.Count) {
		return api.ErrRange
	}
	for _, index := range path.Orders {
		if _, there := p.order(index); !there {
			return api.ErrNone
		}
	}
	for i := 1; i < len(path.Orders); i++ {
		if !p.leads(path.Orders[i-1], path.Orders[i]) {
			return api.ErrArg
		}
	}
	return api.OK
}

// errorOfLayout returns the error of a layout.
func (p *plan) errorOfLayout(layout []int) api.Errno {
	if len(layout) != p.items() {
		return api.ErrLong
	}
	for i, address := range layout {
		if !within(0, p.addresses()-1, address) {
			return api.ErrRange
		}
		if slices.Contains(layout[:i], address) {
			return api.ErrTwice
		}
	}
	return api.OK
}

// within says whether a number is from a least one to a greatest one.
func within(least, greatest, n int) bool { return least <= n && n <= greatest }
