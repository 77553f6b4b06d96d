package formula_test

import (
	"math"
	"math/rand/v2"
	"slices"
	"testing"

	"quicksilver/api"
	"quicksilver/formula"
)

// wild returns a number that may be anything, but is often one from 0 and below end.
func wild(r *rand.Rand, end int) int {
	strange := []int{math.MinInt, math.MaxInt, r.Int(), -1, end, 0}
	if i := r.IntN(40); i < len(strange) {
		return strange[i]
	}
	return r.IntN(end)
}

// cloned returns a formula that shares no memory.
func cloned(f api.FoFormula) api.FoFormula {
	return api.FoFormula{Vars: slices.Clone(f.Vars), Code: slices.Clone(f.Code)}
}

// wildFormula returns what is a formula at times.
func wildFormula(r *rand.Rand) api.FoFormula {
	f := smallTree(r, 8).formula()
	names := append(someNames(), "", "A", "a b", "\xff")
	n := &f.Code[r.IntN(len(f.Code))]
	switch r.IntN(8) {
	case 0:
		f.Vars = append(f.Vars, names[r.IntN(len(names))])
	case 1:
		f.Vars = f.Vars[:r.IntN(len(f.Vars)+1)]
	case 2:
		*n = api.FoNode{Kind: wild(r, 6), Var: wild(r, 2), Num: wild(r, 10), Places: wild(r, 3)}
	case 3:
		*n = c(wild(r, 100), wild(r, 7))
	case 4:
		*n = op(3 + r.IntN(3))
	case 5:
		f.Code = slices.Repeat(f.Code, r.IntN(6))
	}
	return f
}

// wildNumbers returns numbers, often as many as said.
func wildNumbers(r *rand.Rand, many, end int) []int {
	var l []int
	for range max(0, many+max(0, r.IntN(20)-18)-max(0, r.IntN(20)-18)) {
		l = append(l, wild(r, end))
	}
	return l
}

// P7.15, P1: any formulas are accepted, and not modified; with an error all other results are zero.
func TestAnyFormulas(t *testing.T) {
	r := rand.New(rand.NewPCG(7, 17))
	met := map[api.Errno]int{}
	for range 15000 {
		f := wildFormula(r)
		words := wildNumbers(r, len(f.Vars), 2*one)
		var spans []api.Span
		for _, n := range wildNumbers(r, len(f.Vars), one) {
			spans = append(spans, span(n>>r.IntN(4), n))
		}
		before, words0, spans0 := cloned(f), slices.Clone(words), slices.Clone(spans)
		e := formula.Check(f)
		text, e1 := formula.Write(f)
		word, e2 := formula.Eval(f, words)
		bounds, at, e3 := formula.Range(f, spans)
		p, e4 := formula.Compile(f)
		if !same(f, before) || !slices.Equal(words, words0) || !slices.Equal(spans, spans0) {
			t.Fatalf("%v became %v, or other arguments did", before, f)
		}
		if e1 != e || e4 != e || e != api.OK && (e2 != e || e3 != e) {
			t.Fatalf("errors of %v: %d, %d, %d, %d, %d", f, e, e1, e2, e3, e4)
		}
		zero := (e2 == api.OK || word == 0) && (e3 == api.OK || bounds == api.FoRange{}) && (e3 != api.OK || at == 0)
		if !zero || (text != "") != (e == api.OK) || (len(p.Store) > 0) != (e == api.OK) || (p.Orders > 0) != (e == api.OK) || p.Start != 0 {
			t.Fatalf("results of %v: %q, %d, %v, %d, %v", f, text, word, bounds, at, p)
		}
		met[e]++
		met[e2]++
		met[e3]++
	}
	for _, e := range []api.Errno{api.OK, api.ErrLong, api.ErrForm, api.ErrTwice, api.ErrArg, api.ErrRange, api.FoErrOver} {
		if met[e] < 100 {
			t.Errorf("the error %d is met only %d times", e, met[e])
		}
	}
}

// P7.15, P1: any texts and floating numbers are accepted, and not modified; with an error all other results are zero.
func TestAnyNumbersAndTexts(t *testing.T) {
	r := rand.New(rand.NewPCG(7, 18))
	met := map[api.Errno]int{}
	for range 15000 {
		text := make([]byte, wild(r, 20)&1023)
		for i := range text {
			text[i] = byte(r.IntN(256))
		}
		if f, at, e := formula.Read(string(text)); e != api.OK && !isZero(f) || e == api.OK && at != 0 || at < 0 || at > len(text) {
			t.Fatalf("Read of %q = %v, %d, %d", text, f, at, e)
		}
		if f, e := formula.Float(wild(r, 1<<46), wild(r, 100)); e != api.OK && f != fl(0, 0) {
			t.Fatalf("Float = %v, %d", f, e)
		}
		var regs []api.FoFloat
		for range wild(r, 9) & 15 {
			f := someFloat(r, fl(0, 0))
			if r.IntN(30) == 0 {
				f = fl(wild(r, one), wild(r, 64))
			}
			regs = append(regs, f)
		}
		var steps []api.FoStep
		for range wild(r, 9) & 63 {
			steps = append(steps, api.FoStep{Op: 3 + wild(r, 4), A: wild(r, 1+len(regs)/2), B: wild(r, 1+len(regs)/2), To: wild(r, 1+len(regs)/2)})
		}
		regs0, steps0 := slices.Clone(regs), slices.Clone(steps)
		after, at, e := formula.Calc(regs, steps)
		if !slices.Equal(regs, regs0) || !slices.Equal(steps, steps0) {
			t.Fatalf("%v, %v became %v, %v", regs0, steps0, regs, steps)
		}
		if (e == api.OK) != (len(after) > 0) || e == api.OK && at != 0 || at < 0 || at > 0 && at >= max(len(regs), len(steps)) {
			t.Fatalf("Calc of %v, %v = %v, %d, %d", regs, steps, after, at, e)
		}
		met[e]++
	}
	for _, e := range []api.Errno{api.OK, api.ErrLong, api.ErrRange, api.ErrArg, api.ErrNone, api.ErrZero, api.FoErrBig} {
		if met[e] < 50 {
			t.Errorf("the error %d is met only %d times", e, met[e])
		}
	}
}

// P7.15: results are new memory, each of its own, also where there is room behind an argument.
func TestNewMemory(t *testing.T) {
	f := example()
	f.Vars, f.Code = append(make([]string, 0, 20), f.Vars...), append(make([]api.FoNode, 0, 50), f.Code...)
	text := write(t, f)
	read1, read2 := read(t, text), read(t, text)
	p1, p2 := compile(t, f), compile(t, f)
	clear(read1.Vars[:cap(read1.Vars)])
	clear(read1.Code[:cap(read1.Code)])
	clear(p1.Store[:cap(p1.Store)])
	if !same(read2, example()) || !same(f, example()) || len(p2.Store) != 17 || p2.Store[13] != half/2 || text != "a*(b-0.25)+b" {
		t.Errorf("memory is shared: %v, %v, %v", read2, f, p2)
	}
	if !slices.Equal(f.Vars[2:20], make([]string, 18)) || !slices.Equal(f.Code[7:50], make([]api.FoNode, 43)) {
		t.Errorf("something is written behind %v", f)
	}
	words := append(make([]int, 0, 9), half, half)
	spans := append(make([]api.Span, 0, 9), span(0, half), span(0, half))
	eval(t, f, words)
	formula.Range(f, spans)
	regs := append(make([]api.FoFloat, 0, 9), fl(least, 1), fl(least, 2))
	for _, steps := range [][]api.FoStep{nil, {{Op: 3, A: 0, B: 1, To: 0}}} {
		after, _, e := formula.Calc(regs, steps)
		if e != api.OK {
			t.Fatalf("Calc: %d", e)
		}
		clear(after[:cap(after)])
	}
	if !slices.Equal(regs, []api.FoFloat{fl(least, 1), fl(least, 2)}) || !slices.Equal(words[:9], []int{half, half, 8: 0}) || spans[:9][2] != (api.Span{}) {
		t.Errorf("arguments are shared: %v, %v, %v", regs, words, spans)
	}
}
