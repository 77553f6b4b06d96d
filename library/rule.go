package library

import (
	"sort"

	"quicksilver/api"
)

// rule is what the routines of a kind take, and what they have to come to.
type rule struct {
	// The names of the words with the arguments.
	args []string
	// The names of the words by which a number is multiplied in the test, one after the other.
	by []string
	// The test of a number, with the arguments.
	test func(t int, args []int) int
}

// ruleOf returns the rule of a kind, and whether there is such a kind.
func ruleOf(kind int) (r rule, there bool) {
	switch kind {
	case api.LiRoot:
		return rule{args: []string{first}, by: []string{try}, test: squared}, true
	case api.LiQuot:
		return rule{args: []string{first, second}, by: []string{second}, test: multiplied}, true
	case api.LiCube:
		return rule{args: []string{first}, by: []string{try, try}, test: cubed}, true
	}
	return rule{}, false
}

func squared(t int, _ []int) int { return product(t, t) }

func multiplied(t int, args []int) int { return product(t, args[1]) }

func cubed(t int, _ []int) int { return product(product(t, t), t) }

// product returns the product of two numbers of units, in units, rounded down.
func product(a, b int) int { return a * b / api.LiOne }

// value returns the greatest number that passes the test.
func (r rule) value(args []int) int {
	// A test never comes to less with a greater number, and 0 always passes.
	tooGreat := func(t int) bool { return r.test(t, args) > args[0] }
	return sort.Search(api.LiOne, tooGreat) - 1
}
