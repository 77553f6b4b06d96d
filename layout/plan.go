package layout

import (
	"iter"
	"slices"

	"quicksilver/api"
	"quicksilver/order"
)

// nothing is in place of an item, or of an event, where there is none.
const nothing = -1

// plan is a task, and the events of each of its paths, by their items.
type plan struct {
	api.LaTask
	events [][]int
}

// planOf returns the plan of a task, or the error of the task.
func planOf(t api.LaTask) (*plan, api.Errno) {
	if _, _, e := Check(t); e != api.OK {
		return nil, e
	}
	p := &plan{LaTask: t}
	for _, path := range t.Paths {
		p.events = append(p.events, slices.Collect(p.eventsOf(path)))
	}
	return p, api.OK
}

// planWith returns the plan of a task, or the error of the task or of a layout of it.
func planWith(t api.LaTask, layout []int) (*plan, api.Errno) {
	p, e := planOf(t)
	if e != api.OK {
		return nil, e
	}
	if e := p.errorOfLayout(layout); e != api.OK {
		return nil, e
	}
	return p, api.OK
}

// items returns how many items there are.
func (p *plan) items() int { return len(p.Orders) + p.Data }

// addresses returns how many addresses there are.
func (p *plan) addresses() int { return p.Lines * api.OrPlaces }

// use is what the indices of an order stand for: each function returns the item, or nothing, and whether the index may be this one.
type use struct {
	from, to, next func(index int) (item int, there bool)
}

// uses returns for each Op what is looked at.
func (p *plan) uses() [api.OrPrint + 1]use {
	both := use{from: p.datum, to: p.datum, next: p.order}
	return [...]use{
		api.OrHalt:  {from: p.unused, to: p.unused, next: p.unused},
		api.OrMove:  both,
		api.OrAdd:   both,
		api.OrSub:   both,
		api.OrMul:   both,
		api.OrTest:  {from: p.datum, to: p.order, next: p.order},
		api.OrRead:  {from: p.unused, to: p.datum, next: p.order},
		api.OrPrint: {from: p.datum, to: p.unused, next: p.order},
	}
}

func (p *plan) unused(int) (item int, there bool) { return nothing, true }

func (p *plan) datum(index int) (item int, there bool) {
	return len(p.Orders) + index, within(0, p.Data-1, index)
}

func (p *plan) order(index int) (item int, there bool) {
	return index, within(0, len(p.Orders)-1, index)
}

// withItems returns an order with items in place of its indices, and whether there are all that it uses. Its Op must be one.
func (p *plan) withItems(o api.LaOrder) (used api.LaOrder, there bool) {
	u := p.uses()[o.Op]
	from, isFrom := u.from(o.From)
	to, isTo := u.to(o.To)
	next, isNext := u.next(o.Next)
	return api.LaOrder{Op: o.Op, From: from, To: to, Next: next}, isFrom && isTo && isNext
}

// leads says whether an order leads to another one.
func (p *plan) leads(index, other int) bool {
	o, _ := p.withItems(p.Orders[index])
	// If To is a datum, its item is not that of any order.
	return other == o.Next || other == o.To
}

// eventsOf yields the events of a path, by their items.
func (p *plan) eventsOf(path api.LaPath) iter.Seq[int] {
	return func(yield func(int) bool) {
		last := len(path.Orders) - 1
		for _, index := range path.Orders[:last] {
			for _, item := range p.comeBy(index) {
				if !yield(item) {
					return
				}
			}
		}
		yield(path.Orders[last])
	}
}

// comeBy returns the items that come by, from an order on and before the next one.
func (p *plan) comeBy(index int) []int {
	o, _ := p.withItems(p.Orders[index])
	items := []int{index}
	for _, item := range []int{o.From, o.To} {
		if item >= len(p.Orders) {
			items = append(items, item)
		}
	}
	if o.Op == api.OrMul {
		items = append(items, o.To)
	}
	return items
}

// takes returns how many minor cycles a layout takes.
func (p *plan) takes(layout []int) int {
	all := 0
	for i, events := range p.events {
		time := 0
		for k := 1; k < len(events); k++ {
			time += wait(layout[events[k-1]], layout[events[k]])
		}
		all += time * p.Paths[i].Count
	}
	return all
}

// wait returns after how many minor cycles the word at an address comes by, when one at another address (or the same) has.
func wait(before, address int) int {
	// No time is added for a product: To comes by again only when the multiplier is ready.
	return 1 + placeOf(address-before-1)
}

// placeOf returns the place of an address, also of one below 0.
func placeOf(n int) int { return n & (api.OrPlaces - 1) }

// program returns the words of the program of a layout.
func (p *plan) program(layout, words []int) []int {
	addressOf := func(item int) int {
		if item == nothing {
			return 0
		}
		return layout[item]
	}
	store := make([]int, api.OrStore)
	for i, o := range p.Orders {
		used, _ := p.withItems(o)
		// There is no error: all addresses of a layout are addresses of the machine.
		store[layout[i]], _ = order.Encode(api.OrOrder{
			Op:   used.Op,
			From: addressOf(used.From),
			To:   addressOf(used.To),
			Next: addressOf(used.Next),
		})
	}
	for i, word := range words {
		store[layout[len(p.Orders)+i]] = word
	}
	return store
}
