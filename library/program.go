package library

import "quicksilver/api"

// How many orders a call has beside those that move its arguments, and how many a program beside those of inputs and calls.
const (
	ordersOfCall = 3
	ordersAtEnd  = 1
)

// plan is a program that is put together: what it is made of, where its links, its registers and its end are, and where each routine that is called begins.
type plan struct {
	cat                   []api.LiEntry
	inputs                int
	calls                 []api.LiCall
	links, registers, end int
	bases                 map[string]int
}

// planOf returns the plan of a program, also of one that is too long.
func planOf(cat []api.LiEntry, inputs int, calls []api.LiCall) *plan {
	p := &plan{cat: cat, inputs: inputs, calls: calls, bases: map[string]int{}}
	registers := inputs
	p.links = inputs + ordersAtEnd
	for _, c := range calls {
		p.links += len(c.Args) + ordersOfCall
		registers = max(registers, c.To+1)
	}
	p.registers = p.links + len(calls)
	p.end = p.registers + registers
	for _, entry := range cat {
		if p.isCalled(entry) {
			p.bases[entry.Name] = p.end
			p.end += len(entry.Code.Words)
		}
	}
	return p
}

func (p *plan) isCalled(entry api.LiEntry) bool {
	return indexOf(p.calls, entry.Name, nameOfCall) != nowhere
}

// program returns the program, which must not be too long.
func (p *plan) program() api.FoProgram {
	w := &writer{store: make([]int, p.end)}
	for i := range p.inputs {
		w.put(api.OrRead, 0, p.registers+i)
	}
	for i := range p.calls {
		p.call(w, i)
	}
	w.lead(api.OrHalt, 0, 0, 0)
	for _, entry := range p.cat {
		if p.isCalled(entry) {
			base := p.bases[entry.Name]
			copy(w.store[base:], placed(entry.Code, origin(base).moved))
		}
	}
	return api.FoProgram{Store: w.store, Orders: w.orders}
}

// call writes the orders of a call, and its link.
func (p *plan) call(w *writer, index int) {
	c := p.calls[index]
	base := p.bases[c.Name]
	code := p.cat[indexOf(p.cat, c.Name, nameOfEntry)].Code
	for i, arg := range c.Args {
		w.put(api.OrMove, p.registers+arg, base+code.Args[i])
	}
	link, to := p.links+index, p.registers+c.To
	w.lead(api.OrMove, link, base+code.Exit, base+code.Entry)
	// The order at the exit moves nothing anywhere else: it only leads back.
	w.store[link] = wordOf(api.OrMove, 0, 0, w.orders)
	w.put(api.OrMove, base+code.Result, to)
	w.put(api.OrPrint, to, 0)
}

// writer is a store, and how many orders there are at its beginning so far.
type writer struct {
	store  []int
	orders int
}

// put writes an order that leads to the one behind it.
func (w *writer) put(op, from, to int) { w.lead(op, from, to, w.orders+1) }

// lead writes an order that leads to an address.
func (w *writer) lead(op, from, to, next int) {
	w.store[w.orders] = wordOf(op, from, to, next)
	w.orders++
}
