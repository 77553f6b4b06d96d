package library

import (
	"slices"

	"quicksilver/api"
	"quicksilver/order"
)

// Names of words behind the orders of a routine: the exit, constants, arguments, and what the orders change.
const (
	exit   = "exit"
	half   = "half"
	one    = "one"
	first  = "first"
	second = "second"
	result = "result"
	try    = "try"
	step   = "step"
	test   = "test"
)

// Names of orders to which other ones lead.
const (
	again = "again"
	keep  = "keep"
	halve = "halve"
)

// item is a word of a routine, with names in place of addresses: an order, or a number if it has no Op. An order that names no next one goes on with that behind it.
type item struct {
	name           string
	op             int
	from, to, next string
	number         int
}

// code returns the routine of a rule.
func (r rule) code() api.LiCode {
	var products, arguments []item
	for _, name := range r.by {
		products = append(products, item{op: api.OrMul, from: name, to: test})
	}
	for _, name := range r.args {
		arguments = append(arguments, item{name: name})
	}
	begin := []item{
		{op: api.OrMove, from: half, to: step},
		{op: api.OrSub, from: result, to: result},
		{name: again, op: api.OrMove, from: result, to: try},
		{op: api.OrAdd, from: step, to: try},
		{op: api.OrMove, from: try, to: test},
	}
	end := []item{
		{op: api.OrSub, from: first, to: test},
		{op: api.OrSub, from: one, to: test},
		{op: api.OrTest, from: test, to: keep, next: halve},
		{name: keep, op: api.OrMove, from: try, to: result},
		{name: halve, op: api.OrMul, from: half, to: step},
		{op: api.OrMove, from: step, to: test},
		{op: api.OrSub, from: one, to: test},
		{op: api.OrTest, from: test, to: exit, next: again},
	}
	constants := []item{{name: exit}, {name: half, number: api.LiOne / 2}, {name: one, number: 1}}
	changed := []item{{name: result}, {name: try}, {name: step}, {name: test}}
	return together(r.args, begin, products, end, constants, arguments, changed)
}

// together returns the routine of some parts, and with some arguments.
func together(args []string, parts ...[]item) api.LiCode {
	items := slices.Concat(parts...)
	places := map[string]int{}
	for i, it := range items {
		if it.name != "" {
			places[it.name] = i
		}
	}
	c := api.LiCode{Exit: places[exit], Result: places[result]}
	for i, it := range items {
		word, mask := it.written(places, i+1)
		c.Words = append(c.Words, word)
		c.Masks = append(c.Masks, mask)
	}
	for _, name := range args {
		c.Args = append(c.Args, places[name])
	}
	return c
}

// written returns the word of an item, and its mask, with the places of all names, and the one behind the item.
func (it item) written(places map[string]int, behind int) (word, mask int) {
	if it.op == api.OrHalt {
		return it.number, 0
	}
	next := behind
	if it.next != "" {
		next = places[it.next]
	}
	return wordOf(it.op, places[it.from], places[it.to], next), api.LiFrom | api.LiTo | api.LiNext
}

// origin is the address at which a routine is placed.
type origin int

// moved returns a word with a mask as it is behind the origin.
func (at origin) moved(word, mask int) int {
	// There is no error: the words of a routine are words.
	o, _ := order.Decode(word)
	return wordOf(
		o.Op,
		at.address(o.From, mask&api.LiFrom),
		at.address(o.To, mask&api.LiTo),
		at.address(o.Next, mask&api.LiNext),
	)
}

// address returns an address, counted from the origin on if its bit of the mask is set.
func (at origin) address(n, bit int) int {
	if bit == 0 {
		return n
	}
	return (n + int(at)) % api.OrStore
}

// placed returns the words of a routine, each one as it is moved.
func placed(c api.LiCode, move func(word, mask int) int) []int {
	words := make([]int, len(c.Words))
	for i, word := range c.Words {
		words[i] = move(word, c.Masks[i])
	}
	return words
}

// wordOf returns the word of an order.
func wordOf(op, from, to, next int) int {
	// There is no error: all addresses are in a store.
	word, _ := order.Encode(api.OrOrder{Op: op, From: from, To: to, Next: next})
	return word
}
