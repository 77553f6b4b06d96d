package formula_test

import (
	"math"
	"math/rand/v2"
	"slices"
	"strings"
	"testing"

	"quicksilver/api"
	"quicksilver/formula"
)

// tower returns nodes with so many constants on the pile, and operations behind them.
func tower(many int) []api.FoNode {
	return slices.Concat(slices.Repeat([]api.FoNode{c(5, 1)}, many), slices.Repeat([]api.FoNode{op(api.FoMul)}, many-1))
}

// flat returns nodes with so many constants, and never more than two on the pile.
func flat(many int) []api.FoNode {
	return append([]api.FoNode{c(5, 1)}, slices.Repeat([]api.FoNode{c(1, 1), op(api.FoSub)}, many-1)...)
}

// expectError checks that all functions with a formula return an error.
func expectError(t *testing.T, f api.FoFormula, want api.Errno) {
	t.Helper()
	// The other arguments have errors of their own.
	text, e1 := formula.Write(f)
	word, e2 := formula.Eval(f, []int{-1, -1, -1, -1, -1, -1, -1, -1, -1, -1})
	r, at, e3 := formula.Range(f, []api.Span{9: {Lo: 1}})
	p, e4 := formula.Compile(f)
	if e := formula.Check(f); e != want || e1 != want || e4 != want {
		t.Errorf("%v: Check = %d, Write = %d, Compile = %d; not %d", f, e, e1, e4, want)
	}
	if want == api.OK {
		want = api.ErrArg
	} else if text != "" || len(p.Store) != 0 || p.Start != 0 || p.Orders != 0 {
		t.Errorf("%v: Write = %q, Compile = %v", f, text, p)
	}
	if word != 0 || e2 != want || r != (api.FoRange{}) || at != 0 || e3 != want {
		t.Errorf("%v: Eval = %d, %d; Range = %v, %d, %d", f, word, e2, r, at, e3)
	}
}

// P7.1: how many variables and nodes there are.
func TestCheckSizes(t *testing.T) {
	eight := "a b c d e f g h"
	all := []api.FoNode{v(0)}
	for i := 1; i < 8; i++ {
		all = append(all, v(i), op(api.FoAdd))
	}
	expectError(t, formulaWith(eight, all...), api.OK)
	expectError(t, formulaWith(eight+" i", append(all, v(8), op(api.FoAdd))...), api.ErrLong)
	expectError(t, formulaWith(eight+" i", v(0)), api.ErrLong)
	expectError(t, formulaWith(""), api.ErrLong)
	expectError(t, formulaWith("a"), api.ErrLong)
	expectError(t, formulaWith("", c(5, 1)), api.OK)
	expectError(t, formulaWith("", flat(20)...), api.OK)
	expectError(t, formulaWith("", flat(21)...), api.ErrLong)
	// 40 nodes are not too many, but never leave just one value.
	expectError(t, formulaWith("", append(flat(20), c(5, 1))...), api.ErrForm)
	expectError(t, formulaWith("", make([]api.FoNode, 40)...), api.ErrArg)
	expectError(t, formulaWith("", make([]api.FoNode, 41)...), api.ErrLong)
	expectError(t, formulaWith(strings.Repeat("A ", 1000), v(-1)), api.ErrLong)
	expectError(t, api.FoFormula{Vars: []string{"A", "A"}}, api.ErrLong)
}

// P7.1: names, and the first variable with an error.
func TestCheckNames(t *testing.T) {
	for _, name := range []string{"", "A", "aB", "1a", "_a", "a_", "a b", "a.b", "0.5", "é", "a\x00", "abcdefghijklmnopqrstu", " a"} {
		expectError(t, api.FoFormula{Vars: []string{name}, Code: []api.FoNode{v(0)}}, api.ErrForm)
		expectError(t, api.FoFormula{Vars: []string{"a", name, "a"}, Code: []api.FoNode{op(9)}}, api.ErrForm)
		expectError(t, api.FoFormula{Vars: []string{"a", "a", name}, Code: []api.FoNode{op(9)}}, api.ErrTwice)
		expectError(t, api.FoFormula{Vars: []string{name, name}, Code: []api.FoNode{op(9)}}, api.ErrForm)
	}
	for _, name := range someNames() {
		expectError(t, api.FoFormula{Vars: []string{name}, Code: []api.FoNode{v(0)}}, api.OK)
	}
	expectError(t, formulaWith("a b a", v(0), v(1), op(api.FoAdd)), api.ErrTwice)
	expectError(t, formulaWith("a b c b", v(0)), api.ErrTwice)
}

// P7.1: kinds and fields of nodes.
func TestCheckNodes(t *testing.T) {
	one := func(n api.FoNode, e api.Errno) {
		t.Helper()
		expectError(t, formulaWith("a", v(0), n, op(api.FoAdd)), e)
	}
	for _, kind := range []int{0, 6, 7, -1, math.MinInt, math.MaxInt} {
		one(api.FoNode{Kind: kind}, api.ErrArg)
		one(api.FoNode{Kind: kind, Var: -1, Num: -1, Places: -1}, api.ErrArg)
	}
	strange := []int{-1, 1, 2, math.MinInt, math.MaxInt}
	one(v(0), api.OK)
	for _, n := range strange {
		one(v(n), api.ErrRange)
		one(api.FoNode{Kind: api.FoVar, Num: n}, api.ErrRange)
		one(api.FoNode{Kind: api.FoVar, Places: n}, api.ErrRange)
		one(api.FoNode{Kind: api.FoConst, Var: n, Num: 1, Places: 1}, api.ErrRange)
		for kind := api.FoAdd; kind <= api.FoMul; kind++ {
			for _, x := range []api.FoNode{{Kind: kind, Var: n}, {Kind: kind, Num: n}, {Kind: kind, Places: n}} {
				expectError(t, formulaWith("a", v(0), v(0), x), api.ErrRange)
			}
		}
	}
	// The greatest number of each, and what is beyond.
	ten := 1
	for places := 1; places <= 6; places++ {
		ten *= 10
		for num, e := range map[int]api.Errno{1: api.OK, ten - 1: api.OK, ten: api.ErrRange, ten + 1: api.ErrRange, -1: api.ErrRange, math.MinInt: api.ErrRange, math.MaxInt: api.ErrRange} {
			one(c(num, places), e)
		}
	}
	for _, x := range []api.FoNode{c(1, 0), c(0, 0), c(1, 7), c(1, -1), c(1, math.MaxInt), c(1, math.MinInt), c(0, 2), c(10, 2), c(90, 2), c(0, 6), c(100, 3), c(999990, 6), c(500000, 6)} {
		one(x, api.ErrRange)
	}
	for _, x := range []api.FoNode{c(0, 1), c(11, 2), c(101, 3), c(999991, 6)} {
		one(x, api.OK)
	}
}

// P7.1: the pile, and the first node with an error.
func TestCheckPile(t *testing.T) {
	for kind := api.FoAdd; kind <= api.FoMul; kind++ {
		expectError(t, formulaWith("", op(kind)), api.ErrForm)
		expectError(t, formulaWith("", c(1, 1), op(kind)), api.ErrForm)
		expectError(t, formulaWith("", c(1, 1), c(1, 1), op(kind)), api.OK)
		expectError(t, formulaWith("", c(1, 1), c(1, 1), op(kind), op(kind)), api.ErrForm)
		expectError(t, formulaWith("", c(1, 1), c(1, 1), op(kind), op(kind), op(9)), api.ErrForm)
		expectError(t, formulaWith("", c(1, 1), op(9), op(kind)), api.ErrArg)
		expectError(t, formulaWith("", c(1, 1), c(10, 1), op(kind), op(kind), op(9)), api.ErrRange)
		expectError(t, formulaWith("", c(1, 1), api.FoNode{Kind: kind, Num: 1}), api.ErrRange)
	}
	expectError(t, formulaWith("", c(1, 1), c(1, 1)), api.ErrForm)
	expectError(t, formulaWith("", tower(12)...), api.OK)
	expectError(t, formulaWith("", tower(13)...), api.ErrLong)
	expectError(t, formulaWith("", append(slices.Repeat([]api.FoNode{c(1, 1)}, 12), op(9))...), api.ErrArg)
	expectError(t, formulaWith("", append(slices.Repeat([]api.FoNode{c(1, 1)}, 12), c(1, 9))...), api.ErrRange)
	expectError(t, formulaWith("", append(slices.Repeat([]api.FoNode{c(1, 1)}, 13), op(9))...), api.ErrLong)
	// The pile is as high as it may be once more.
	again := append(slices.Repeat([]api.FoNode{c(1, 1)}, 12), op(3), c(1, 1))
	expectError(t, formulaWith("", append(again, slices.Repeat([]api.FoNode{op(4)}, 11)...)...), api.OK)
	expectError(t, formulaWith("", append(again, c(1, 1))...), api.ErrLong)
	// A variable that is not used is found behind all this.
	expectError(t, formulaWith("a", c(1, 1), c(1, 1)), api.ErrForm)
}

// P7.1: variables are used, and numbered as they are used first.
func TestCheckVariables(t *testing.T) {
	expectError(t, formulaWith("a", c(1, 1)), api.ErrArg)
	expectError(t, formulaWith("a b", v(0)), api.ErrArg)
	expectError(t, formulaWith("a b", v(1)), api.ErrArg)
	expectError(t, formulaWith("a b", v(0), v(1), op(3)), api.OK)
	expectError(t, formulaWith("a b", v(1), v(0), op(3)), api.ErrArg)
	expectError(t, formulaWith("a b", v(0), v(0), op(3)), api.ErrArg)
	expectError(t, formulaWith("a b c", v(0), v(2), op(3), v(1), op(3)), api.ErrArg)
	expectError(t, formulaWith("a b c", v(0), v(1), op(3), v(0), op(3), v(2), op(3)), api.OK)
	expectError(t, formulaWith("b a", v(0), v(1), op(3), v(0), op(3)), api.OK)
}

// P7.1: formulas made at random have no error.
func TestCheckAtRandom(t *testing.T) {
	r := rand.New(rand.NewPCG(7, 1))
	for range 3000 {
		f := smallTree(r, 20).formula()
		if e := formula.Check(f); e != api.OK {
			t.Fatalf("Check of %v = %d", f, e)
		}
	}
}
