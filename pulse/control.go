package pulse

import (
	"quicksilver/api"
	"quicksilver/order"
)

// productHalf is half of the numbers that a product can be.
const productHalf = 1 << (2*api.OrBits - 1)

// What a phase does with the word for which it waits.
const (
	takesIn = iota
	replaces
	adds
	subtracts
)

// control is a machine at work, with a state that nobody else has: all that words and pulses have in common.
type control struct{ api.PuState }

// goes says whether anything happens yet; when the time is over it ends the run.
func (c *control) goes() bool {
	if c.Why == api.OrGoing && c.Clock == api.MaxOrTime {
		c.Why = api.OrLate
	}
	return c.Why == api.OrGoing
}

// awaited returns the address of the word for which the phase waits, and whether it comes by.
func (c *control) awaited() (address int, comes bool) {
	o := orderOf(c.Order)
	switch c.Phase {
	case api.PuFetch:
		address = c.At
	case api.PuFrom:
		address = o.From
	case api.PuTo, api.PuWrite:
		address = o.To
	default:
		return 0, false
	}
	return address, placeOf(address) == placeOf(c.Clock)
}

// does returns what the phase does with the word for which it waits.
func (c *control) does() int {
	if c.Phase == api.PuWrite {
		return replaces
	}
	if c.Phase != api.PuTo {
		return takesIn
	}
	switch orderOf(c.Order).Op {
	case api.OrMul:
		return takesIn
	case api.OrAdd:
		return adds
	case api.OrSub:
		return subtracts
	}
	return replaces
}

// given returns the number that, modulo all words, replaces a word.
func (c *control) given() int {
	switch {
	case c.Phase == api.PuWrite:
		// A shift rounds down also what is below 0.
		return c.Product >> (api.OrBits - 1)
	case orderOf(c.Order).Op == api.OrRead:
		return c.Tape[c.Taken]
	}
	return c.Operand
}

// multiply changes the product for the first or the second one (0, 1) of the two bits of a minor cycle.
func (c *control) multiply(which int) {
	k := api.OrBits - 2*c.Count + which
	if bitOf(c.Operand, k) == 0 {
		return
	}
	part := signed(c.Other) << k
	if k == api.OrBits-1 {
		part = -part // The highest bit is the one of the sign.
	}
	c.Product = toProduct(c.Product + part)
}

// turn does what a minor cycle does at its end: to all but the store, and the product while it is made. The word is the one for which the phase waits, if it has come by.
func (c *control) turn(word int, comes bool) {
	phases := [...]func(*control, int){
		api.PuFetch: (*control).fetch,
		api.PuFrom:  (*control).from,
		api.PuTo:    (*control).to,
		api.PuCount: (*control).count,
		api.PuWrite: (*control).write,
	}
	if comes || c.Phase == api.PuCount {
		phases[c.Phase](c, word)
	}
	if c.Why == api.OrGoing {
		c.Clock++
	}
}

func (c *control) fetch(word int) {
	op := orderOf(word).Op
	switch {
	case op == api.OrHalt:
		c.Why = api.OrHalted
	case op == api.OrRead && c.Taken == len(c.Tape):
		c.Why = api.OrNoTape
	case op == api.OrPrint && len(c.Printed) == api.MaxOrPrints:
		c.Why = api.OrFull
	case op == api.OrRead:
		c.Order, c.Phase = word, api.PuTo
	default:
		c.Order, c.Phase = word, api.PuFrom
	}
}

func (c *control) from(word int) {
	c.Operand = word
	o := orderOf(c.Order)
	switch {
	case o.Op == api.OrPrint:
		c.Printed = append(c.Printed, word)
		c.finish(o.Next)
	case o.Op == api.OrTest && signed(word) < 0:
		c.finish(o.To)
	case o.Op == api.OrTest:
		c.finish(o.Next)
	default:
		c.Phase = api.PuTo
	}
}

func (c *control) to(word int) {
	o := orderOf(c.Order)
	switch o.Op {
	case api.OrMul:
		c.Other, c.Product, c.Count, c.Phase = word, 0, api.OrMulTime, api.PuCount
	case api.OrRead:
		c.Taken++
		c.finish(o.Next)
	default:
		c.finish(o.Next)
	}
}

func (c *control) count(int) {
	c.Count--
	if c.Count == 0 {
		c.Phase = api.PuWrite
	}
}

func (c *control) write(int) { c.finish(orderOf(c.Order).Next) }

// finish does the last thing of an order, whose next one is at an address.
func (c *control) finish(next int) {
	c.At, c.Phase = next, api.PuFetch
	c.Done++
}

// run does so many steps, or fewer, if the machine has ended; a step returns why.
func run(many int, step func() int) {
steps:
	for range many {
		switch step() {
		case api.OrGoing:
			continue
		default:
			break steps
		}
	}
}

// orderOf returns the order that a word is.
func orderOf(word int) api.OrOrder {
	o, _ := order.Decode(word) // Check has found that there are only words.
	return o
}

// signed returns a word, Signed.
func signed(word int) int {
	n, _ := order.Signed(word)
	return n
}

// toWord returns a number modulo all words.
func toWord(n int) int { return n & (api.OrWord - 1) }

// toProduct brings a number into the range of products.
func toProduct(n int) int {
	return (n+productHalf)&(2*productHalf-1) - productHalf
}

// placeOf returns the place of an address, or of a minor cycle, also of one below 0.
func placeOf(n int) int { return n & (api.OrPlaces - 1) }

// bitOf returns a bit of a word.
func bitOf(word, bit int) int { return word >> bit & 1 }
