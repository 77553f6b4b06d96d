package formula

import (
	"quicksilver/api"
	"quicksilver/order"
)

// compiled is a formula that is compiled: the cells of the values on the pile, where the cells of each sort begin, the words of constants so far, and what puts an order behind the others.
type compiled struct {
	api.FoFormula
	pile[int]
	firstVariable, firstConstant, firstValue int
	constants                                []int
	put                                      func(op, from, to int)
}

// compile returns the program of a formula.
func compile(f api.FoFormula) api.FoProgram {
	c := &compiled{FoFormula: f}
	orders := len(c.Vars) + len(c.Code) + 2
	c.firstVariable = orders
	c.firstConstant = c.firstVariable + len(c.Vars)
	c.firstValue = c.firstConstant + c.count(api.FoConst)
	var store []int
	c.put = func(op, from, to int) {
		store = append(store, written(op, from, to, len(store)+1))
	}
	most := c.translate()
	halt := written(api.OrHalt, 0, 0, 0)
	store = joined(store, []int{halt}, make([]int, len(c.Vars)), c.constants, make([]int, most))
	return api.FoProgram{Store: store, Orders: orders}
}

// translate puts all orders but the last one, and returns how many values the pile ever has.
func (c *compiled) translate() (most int) {
	for i := range c.Vars {
		c.put(api.OrRead, 0, c.firstVariable+i)
	}
	by := kinds[int]{
		api.FoVar:   c.variable,
		api.FoConst: c.constant,
		api.FoAdd:   c.operation,
		api.FoSub:   c.operation,
		api.FoMul:   c.operation,
	}
	for range values(c.Code, &c.pile, by) {
		most = max(most, c.high)
	}
	c.put(api.OrPrint, c.take(), 0)
	return most
}

func (c *compiled) variable(n api.FoNode) int { return c.move(c.firstVariable + n.Var) }

func (c *compiled) constant(n api.FoNode) int {
	from := c.firstConstant + len(c.constants)
	c.constants = append(c.constants, wordOfConstant(n))
	return c.move(from)
}

// move moves a word to the next free cell of the pile, and returns this cell.
func (c *compiled) move(from int) int {
	to := c.firstValue + c.high
	c.put(api.OrMove, from, to)
	return to
}

func (c *compiled) operation(n api.FoNode) int {
	first, second := c.two()
	ops := [...]int{api.FoAdd: api.OrAdd, api.FoSub: api.OrSub, api.FoMul: api.OrMul}
	c.put(ops[n.Kind], second, first)
	return first
}

// count returns how many nodes of a kind there are.
func (c *compiled) count(kind int) int {
	count := 0
	for _, n := range c.Code {
		if n.Kind == kind {
			count++
		}
	}
	return count
}

// written returns the word of an order.
func written(op, from, to, next int) int {
	// There is no error: a program has fewer than OrStore words.
	word, _ := order.Encode(api.OrOrder{Op: op, From: from, To: to, Next: next})
	return word
}

// joined returns words, one part after the other.
func joined(parts ...[]int) []int {
	var all []int
	for _, part := range parts {
		all = append(all, part...)
	}
	return all
}
