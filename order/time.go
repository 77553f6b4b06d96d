package order

import (
	"iter"

	"quicksilver/api"
)

// wait is an address whose word is waited for, and for how many minor cycles the machine is busy before it waits.
type wait struct{ address, busy int }

// when is When for what can be done.
func when(o api.OrOrder, time int, negative bool) (at, until int) {
	at = o.Next
	if o.Op == api.OrTest && negative {
		at = o.To
	}
	for cycle := range comeBy(time, append(waits(o), wait{address: at})) {
		until = cycle
	}
	return at, until
}

// waits returns what an order waits for, up to where the next order is waited for.
func waits(o api.OrOrder) []wait {
	from, to := wait{address: o.From}, wait{address: o.To}
	switch o.Op {
	case api.OrTest, api.OrPrint:
		return []wait{from}
	case api.OrRead:
		return []wait{to}
	case api.OrMul:
		return []wait{from, to, {address: o.To, busy: api.OrMulTime}}
	}
	return []wait{from, to}
}

// comeBy yields the minor cycles in which words come by, each one after that of the word before, the first one after a minor cycle.
func comeBy(time int, waits []wait) iter.Seq[int] {
	return func(yield func(int) bool) {
		cycle := time
		for _, w := range waits {
			cycle = after(cycle+w.busy, w.address)
			if !yield(cycle) {
				return
			}
		}
	}
}

// after returns the first minor cycle after another one in which the word at an address comes by.
func after(time, address int) int {
	return time + 1 + placeOf(address-time-1)
}

// placeOf returns the place of an address, or of a minor cycle, also of one below 0.
func placeOf(n int) int { return n & (api.OrPlaces - 1) }
