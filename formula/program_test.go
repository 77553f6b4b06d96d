package formula_test

import (
	"math/rand/v2"
	"slices"
	"strings"
	"testing"

	"quicksilver/api"
	"quicksilver/formula"
	"quicksilver/order"
)

// compile is Compile without an error.
func compile(t *testing.T, f api.FoFormula) api.FoProgram {
	t.Helper()
	p, e := formula.Compile(f)
	if e != api.OK {
		t.Fatalf("Compile of %v: %d", f, e)
	}
	return p
}

// cells is where the cells of a program begin, and the words of constants so far: a second reading of a program.
type cells struct {
	names                                    []string
	firstVariable, firstConstant, firstValue int
	constants                                []int
	orders                                   []api.OrOrder
}

func (l *cells) put(op, from, to int) {
	l.orders = append(l.orders, api.OrOrder{Op: op, From: from, To: to, Next: len(l.orders) + 1})
}

// translate puts the orders of a tree whose value comes to a cell of the pile.
func (l *cells) translate(t *testing.T, x *tree, cell int) {
	t.Helper()
	to := l.firstValue + cell
	switch x.kind {
	case api.FoVar:
		l.put(api.OrMove, l.firstVariable+slices.Index(l.names, x.text), to)
	case api.FoConst:
		l.put(api.OrMove, l.firstConstant+len(l.constants), to)
		l.constants = append(l.constants, x.comes(t, nil))
	default:
		l.translate(t, x.first, cell)
		l.translate(t, x.second, cell+1)
		ops := map[int]int{api.FoAdd: api.OrAdd, api.FoSub: api.OrSub, api.FoMul: api.OrMul}
		l.put(ops[x.kind], to+1, to)
	}
}

// program returns the program of a tree by a second reading.
func (x *tree) program(t *testing.T) api.FoProgram {
	t.Helper()
	f := x.formula()
	constants := 0
	x.each(func(y *tree) {
		if y.kind == api.FoConst {
			constants++
		}
	})
	orders := len(f.Vars) + len(f.Code) + 2
	l := &cells{names: f.Vars, firstVariable: orders, firstConstant: orders + len(f.Vars), firstValue: orders + len(f.Vars) + constants}
	for i := range f.Vars {
		l.put(api.OrRead, 0, orders+i)
	}
	l.translate(t, x, 0)
	l.put(api.OrPrint, l.firstValue, 0)
	var store []int
	for _, o := range l.orders {
		word, e := order.Encode(o)
		if e != api.OK {
			t.Fatalf("Encode of %v: %d", o, e)
		}
		store = append(store, word)
	}
	store = append(store, make([]int, 1+len(f.Vars))...)
	store = append(store, l.constants...)
	return api.FoProgram{Store: append(store, make([]int, x.pile())...), Orders: orders}
}

// P7.6: the chapter's example, order by order, and its cells.
func TestCompile(t *testing.T) {
	p := compile(t, example())
	want := []api.OrOrder{
		{Op: api.OrRead, To: 11, Next: 1}, {Op: api.OrRead, To: 12, Next: 2},
		{Op: api.OrMove, From: 11, To: 14, Next: 3}, {Op: api.OrMove, From: 12, To: 15, Next: 4}, {Op: api.OrMove, From: 13, To: 16, Next: 5},
		{Op: api.OrSub, From: 16, To: 15, Next: 6}, {Op: api.OrMul, From: 15, To: 14, Next: 7},
		{Op: api.OrMove, From: 12, To: 15, Next: 8}, {Op: api.OrAdd, From: 15, To: 14, Next: 9},
		{Op: api.OrPrint, From: 14, Next: 10}, {},
	}
	if p.Start != 0 || p.Orders != 11 || len(p.Store) != 17 || !slices.Equal(p.Store[11:], []int{0, 0, 2097152, 0, 0, 0}) {
		t.Fatalf("Compile = %v", p)
	}
	for i, o := range want {
		if got, e := order.Decode(p.Store[i]); got != o || e != api.OK {
			t.Errorf("the order %d is %v, %d; not %v", i, got, e, o)
		}
	}
	// A variable alone, and constants, which have a cell each time.
	for text, want := range map[string][]int{
		"x":       {0, 0},
		"x-x":     {0, 0, 0},
		"0.5":     {half, 0},
		"0.5*0.5": {half, half, 0, 0},
	} {
		if p := compile(t, read(t, text)); !slices.Equal(p.Store[p.Orders:], want) {
			t.Errorf("Compile of %q = %v", text, p)
		}
	}
}

// P7.6: programs against a second reading.
func TestProgramsAtRandom(t *testing.T) {
	r := rand.New(rand.NewPCG(7, 11))
	for range 3000 {
		x := smallTree(r, 20)
		p, want := compile(t, x.formula()), x.program(t)
		if !slices.Equal(p.Store, want.Store) || p.Start != 0 || p.Orders != want.Orders || len(p.Store) >= api.OrStore {
			t.Fatalf("Compile of %q = %v; not %v", x.brackets(), p, want)
		}
	}
}

// P7.6: the greatest programs have fewer words than the store.
func TestGreatestProgram(t *testing.T) {
	// Twelve values on the pile, eight variables, and twelve constants.
	text := "a+(b+(c+(d+(e+(f+(g+(h+(0.1+(0.1+(0.1+0.1" + strings.Repeat(")", 10) + strings.Repeat("+0.1", 8)
	p := compile(t, read(t, text))
	if p.Orders != 8+39+2 || len(p.Store) != p.Orders+8+12+12 {
		t.Errorf("Compile of %q = %v", text, p)
	}
}

// P7.10: a program prints the word that Eval returns, alone, and halts after all orders but the last one.
func TestProgramsRun(t *testing.T) {
	r := rand.New(rand.NewPCG(7, 12))
	for range 3000 {
		f := smallTree(r, 20).formula()
		var words []int
		for range f.Vars {
			words = append(words, word(someWord(r)))
		}
		p := compile(t, f)
		s, e := order.Begin(p.Store, words, p.Start)
		if e != api.OK {
			t.Fatalf("Begin of %v: %d", p, e)
		}
		s, e = order.Run(s, 1000)
		if e != api.OK || s.Why != api.OrHalted || s.Done != p.Orders-1 || s.Taken != len(words) || !slices.Equal(s.Printed, []int{eval(t, f, words)}) {
			t.Fatalf("%v with %v prints %v, after %d orders: %d", f, words, s.Printed, s.Done, s.Why)
		}
	}
}
