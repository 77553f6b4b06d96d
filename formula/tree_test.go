package formula_test

import (
	"math/big"
	"math/rand/v2"
	"slices"
	"strings"
	"testing"

	"quicksilver/api"
	"quicksilver/formula"
	"quicksilver/order"
)

// tree is a second reading of what a formula is: a name, a constant as it is written, or an operation on two trees.
type tree struct {
	kind          int
	text          string
	first, second *tree
}

const (
	half = 1 << 22
	one  = 1 << 23
)

// v, c and op are nodes.
func v(i int) api.FoNode { return api.FoNode{Kind: api.FoVar, Var: i} }

func c(num, places int) api.FoNode { return api.FoNode{Kind: api.FoConst, Num: num, Places: places} }

func op(kind int) api.FoNode { return api.FoNode{Kind: kind} }

// formulaWith is a formula with some variables.
func formulaWith(vars string, code ...api.FoNode) api.FoFormula {
	return api.FoFormula{Vars: strings.Fields(vars), Code: code}
}

// example is F of the chapter's examples.
func example() api.FoFormula {
	return formulaWith("a b", v(0), v(1), c(25, 2), op(api.FoSub), op(api.FoMul), v(1), op(api.FoAdd))
}

// same says whether two formulas are the same.
func same(f, g api.FoFormula) bool {
	return slices.Equal(f.Vars, g.Vars) && slices.Equal(f.Code, g.Code)
}

// isZero says whether a formula has nothing.
func isZero(f api.FoFormula) bool { return len(f.Vars) == 0 && len(f.Code) == 0 }

// read is Read of a text without an error.
func read(t *testing.T, text string) api.FoFormula {
	t.Helper()
	f, at, e := formula.Read(text)
	if at != 0 || e != api.OK {
		t.Fatalf("Read of %q: %d, %d", text, at, e)
	}
	return f
}

// write is Write of a formula without an error.
func write(t *testing.T, f api.FoFormula) string {
	t.Helper()
	text, e := formula.Write(f)
	if e != api.OK {
		t.Fatalf("Write of %v: %d", f, e)
	}
	return text
}

// eval is Eval without an error.
func eval(t *testing.T, f api.FoFormula, words []int) int {
	t.Helper()
	word, e := formula.Eval(f, words)
	if e != api.OK {
		t.Fatalf("Eval of %v with %v: %d", f, words, e)
	}
	return word
}

// someNames are names of variables.
func someNames() []string {
	return []string{"a", "b", "x_1", "abcdefghijklmnopqrst", "z9", "e5", "q__2", "y"}
}

// someLeaf returns a name, or a constant as it is written.
func someLeaf(r *rand.Rand, names []string) *tree {
	if len(names) > 0 && r.IntN(3) > 0 {
		return &tree{kind: api.FoVar, text: names[r.IntN(len(names))]}
	}
	constants := []string{"0.0", "0.5", "0.1", "0.25", "0.05", "0.999999", "0.000001", "0.9", "0.3333", "0.75"}
	return &tree{kind: api.FoConst, text: constants[r.IntN(len(constants))]}
}

// someTree returns a tree with so many leaves.
func someTree(r *rand.Rand, leaves int, names []string) *tree {
	if leaves == 1 {
		return someLeaf(r, names)
	}
	left := 1 + r.IntN(leaves-1)
	kind := api.FoAdd + r.IntN(3)
	return &tree{kind: kind, first: someTree(r, left, names), second: someTree(r, leaves-left, names)}
}

// smallTree returns a tree with at most so many leaves, of which no pile is too high.
func smallTree(r *rand.Rand, leaves int) *tree {
	for {
		x := someTree(r, 1+r.IntN(leaves), someNames()[:r.IntN(9)])
		if x.pile() <= 12 {
			return x
		}
	}
}

func (x *tree) isLeaf() bool { return x.first == nil }

// pile returns how many values there are on the pile at most.
func (x *tree) pile() int {
	if x.isLeaf() {
		return 1
	}
	return max(x.first.pile(), 1+x.second.pile())
}

// node returns the node of the tree alone, with names numbered by their first use.
func (x *tree) node(names []string) api.FoNode {
	switch x.kind {
	case api.FoVar:
		return v(slices.Index(names, x.text))
	case api.FoConst:
		value, places := 0, len(x.text)-2
		for _, digit := range x.text[2:] {
			value = value*10 + int(digit-'0')
		}
		return c(value, places)
	}
	return op(x.kind)
}

// formula returns the formula of a tree.
func (x *tree) formula() api.FoFormula {
	var f api.FoFormula
	x.each(func(y *tree) {
		if y.kind == api.FoVar && !slices.Contains(f.Vars, y.text) {
			f.Vars = append(f.Vars, y.text)
		}
		f.Code = append(f.Code, y.node(f.Vars))
	})
	return f
}

// each does something with all trees within a tree, in the order of the nodes.
func (x *tree) each(do func(y *tree)) {
	if !x.isLeaf() {
		x.first.each(do)
		x.second.each(do)
	}
	do(x)
}

// sign returns the sign of an operation.
func (x *tree) sign() string { return "   +-*"[x.kind : x.kind+1] }

// brackets returns a text of a tree with brackets around all operations.
func (x *tree) brackets() string {
	if x.isLeaf() {
		return x.text
	}
	return "(" + x.first.brackets() + x.sign() + x.second.brackets() + ")"
}

// units is a number of units as a fraction.
func units(n int) *big.Rat { return big.NewRat(int64(n), 1) }

// exact returns the exact value of a tree, in units, with words (Signed) of its variables.
func (x *tree) exact(given map[string]int) *big.Rat {
	value := new(big.Rat)
	switch x.kind {
	case api.FoVar:
		return value.Set(units(given[x.text]))
	case api.FoConst:
		value.SetString(x.text)
		return value.Mul(value, units(one))
	}
	first, second := x.first.exact(given), x.second.exact(given)
	switch x.kind {
	case api.FoAdd:
		return value.Add(first, second)
	case api.FoSub:
		return value.Sub(first, second)
	}
	value.Mul(first, second)
	return value.Quo(value, units(one))
}

// floor returns a fraction, rounded down.
func floor(x *big.Rat) int {
	n := new(big.Int)
	n.Div(x.Num(), x.Denom()) // The denominator is above 0, so that this rounds down.
	return int(n.Int64())
}

// signed is order.Signed without an error.
func signed(t *testing.T, word int) int {
	t.Helper()
	n, e := order.Signed(word)
	if e != api.OK {
		t.Fatalf("Signed of %d: %d", word, e)
	}
	return n
}

// word returns the word that is a number, Signed.
func word(n int) int { return (n + 2*one) % (2 * one) }

// machine returns what the machine makes of two words with one order.
func machine(t *testing.T, kind, first, second int) int {
	t.Helper()
	ops := map[int]int{api.FoAdd: api.OrAdd, api.FoSub: api.OrSub, api.FoMul: api.OrMul}
	code, e := order.Encode(api.OrOrder{Op: ops[kind], From: 3, To: 2, Next: 1})
	s, f := order.Begin([]int{code, 0, first, second}, nil, 0)
	s, g := order.Run(s, 1)
	if e != api.OK || f != api.OK || g != api.OK || s.Done != 1 {
		t.Fatalf("the machine with %d, %d, %d: %v", kind, first, second, s)
	}
	return s.Store[2]
}

// comes returns the word that a tree comes to, order by order.
func (x *tree) comes(t *testing.T, given map[string]int) int {
	t.Helper()
	switch x.kind {
	case api.FoVar:
		return word(given[x.text])
	case api.FoConst:
		return floor(new(big.Rat).Add(x.exact(nil), big.NewRat(1, 2)))
	}
	return machine(t, x.kind, x.first.comes(t, given), x.second.comes(t, given))
}

// someWord returns a word, Signed; often one near the ends, near 0 or near a half.
func someWord(r *rand.Rand) int {
	near := []int{-one, -one + 1, -half, -1, 0, 1, half, one - 2, one - 1}
	if r.IntN(3) == 0 {
		return near[r.IntN(len(near))]
	}
	return r.IntN(2*one) - one
}

// wordsOf returns words of variables, in their order.
func wordsOf(names []string, given map[string]int) []int {
	var words []int
	for _, name := range names {
		words = append(words, word(given[name]))
	}
	return words
}
