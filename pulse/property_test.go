package pulse_test

import (
	"math/rand/v2"
	"testing"

	"quicksilver/api"
	"quicksilver/order"
	"quicksilver/pulse"
)

// P5.6: orders and minor cycles agree.
func TestOrdersAndMinorCycles(t *testing.T) {
	r := rand.New(rand.NewPCG(101, 102))
	whys, whats := map[int]int{}, map[int]int{}
	for range 3000 {
		s, most := someOrders(r), r.IntN(60)
		after := must[api.OrState](t)(order.Run(s, most))
		if after.Time >= 1000000000 || after.Why == api.OrLate {
			continue
		}
		whys[after.Why]++
		begin := must[api.PuState](t)(pulse.Start(s))
		then := minors(t, begin, after.Time-s.Time)
		want := after
		want.Why = s.Why
		if got, e := pulse.Order(then); !sameOrders(got, want) || e != api.OK || then.Phase != api.PuFetch {
			t.Fatalf("%v after %d orders is %v, not %v, %d", s, most, want, got, e)
		}
		if after.Why != api.OrGoing {
			ended := cloned(then)
			ended.Why = after.Why
			if got := minors(t, then, 1); !same(got, ended) {
				t.Fatalf("%v becomes %v, not %v", then, got, ended)
			}
		}
		for _, step := range must[[]api.OrStep](t)(order.Trace(s, most)) {
			whats[step.Order.Op]++
		}
	}
	for why := range 4 {
		if whys[why] < 50 {
			t.Errorf("only %d runs ended with %d", whys[why], why)
		}
	}
	for what := api.OrMove; what <= api.OrPrint; what++ {
		if whats[what] < 500 {
			t.Errorf("only %d orders were %d", whats[what], what)
		}
	}
}

// P5.6: step by step, at the minor cycles in which orders are taken.
func TestEachStep(t *testing.T) {
	r := rand.New(rand.NewPCG(103, 104))
	for range 300 {
		s := someOrders(r)
		p := must[api.PuState](t)(pulse.Start(s))
		for _, step := range must[[]api.OrStep](t)(order.Trace(s, 20)) {
			if p.Clock != step.Time || p.At != step.At || p.Phase != api.PuFetch {
				t.Fatalf("%v is not %v", p, step)
			}
			if p.Clock == 1000000000 {
				break
			}
			word := must[int](t)(order.Encode(step.Order))
			if x := minors(t, p, 1); x.Order != word || x.Phase == api.PuFetch {
				t.Fatalf("%v becomes %v", p, x)
			}
			p = minors(t, p, step.Until-step.Time)
		}
	}
}

// P5.7: minor cycles and beats agree, from any state on.
func TestMinorCyclesAndBeats(t *testing.T) {
	r := rand.New(rand.NewPCG(105, 106))
	for range 3000 {
		s, many := some(r), r.IntN(60)
		if r.IntN(20) == 0 {
			many = r.IntN(2501)
		}
		got, want := words(t, beats(t, bits(t, s), 24*many)), minors(t, s, many)
		if !same(got, want) {
			t.Fatalf("%v after %d is %v, not %v", s, many, want, got)
		}
	}
}

// P5.8: runs can be cut anywhere, beats also within a minor cycle.
func TestCutAnywhere(t *testing.T) {
	r := rand.New(rand.NewPCG(107, 108))
	for range 1500 {
		s, first, more := some(r), r.IntN(60), r.IntN(60)
		if a, b := minors(t, minors(t, s, first), more), minors(t, s, first+more); !same(a, b) {
			t.Fatalf("Minors of %v, %d and %d: %v, %v", s, first, more, a, b)
		}
		p, first, more := somePulses(t, r), r.IntN(500), r.IntN(500)
		if a, b := beats(t, beats(t, p, first), more), beats(t, p, first+more); !samePulses(a, b) {
			t.Fatalf("Beats of %v, %d and %d: %v, %v", p, first, more, a, b)
		}
	}
	// Beat by beat, through whole orders of each kind.
	for what := 1; what <= 7; what++ {
		p := bits(t, begin(t, []int{op(what, 1, 2, 3), 11184810, 14456789}, []int{13421772}))
		x := p
		for many := range 500 {
			if y := beats(t, p, many); !samePulses(x, y) {
				t.Fatalf("%d: %d beats, one by one: %v; %v", what, many, x, y)
			}
			x = beats(t, x, 1)
		}
	}
}

// P5.9: while the machine waits, nothing changes but Clock, Product and Count.
func TestWaiting(t *testing.T) {
	r := rand.New(rand.NewPCG(109, 110))
	for range 3000 {
		s := some(r)
		if s.Why != api.OrGoing {
			continue
		}
		n := must[int](t)(pulse.Until(s))
		if n < 1 || n > 16 {
			t.Fatalf("Until of %v = %d", s, n)
		}
		for many := range n {
			x, want := minors(t, s, many), cloned(s)
			want.Clock, want.Product, want.Count = s.Clock+many, x.Product, x.Count
			if !same(x, want) || s.Phase != api.PuCount && (x.Product != s.Product || x.Count != s.Count) {
				t.Fatalf("%v becomes %v after %d of %d", s, x, many, n)
			}
		}
		if x := minors(t, s, n); x.Phase == s.Phase && x.Why == api.OrGoing {
			t.Fatalf("%v becomes %v after %d", s, x, n)
		}
	}
}

// P5.10: the product is the one of both words, Signed.
func TestMultiplier(t *testing.T) {
	r := rand.New(rand.NewPCG(111, 112))
	ends := []int{0, 1, 2, 4194304, 8388607, 8388608, 8388609, 16777214, 16777215}
	for i := range 3000 {
		a, b := someWord(r), someWord(r)
		if i < 81 {
			a, b = ends[i/9], ends[i%9]
		}
		s := program(t)
		s.Store[2], s.Clock, s.Phase, s.Order, s.Operand = b, 2, api.PuTo, op(api.OrMul, 1, 2, 3), a
		s.Other, s.Product = someWord(r), r.IntN(1<<40)
		x := minors(t, s, 1)
		if x.Phase != api.PuCount || x.Count != 12 || x.Product != 0 || x.Other != b {
			t.Fatalf("%v becomes %v", s, x)
		}
		y := minors(t, x, 12)
		if y.Phase != api.PuWrite || y.Count != 0 || y.Product != withSign(a)*withSign(b) || y.Clock != 15 || y.Store[2] != b {
			t.Fatalf("%v becomes %v", x, y)
		}
		if y := minors(t, x, 11); y.Phase != api.PuCount {
			t.Fatalf("%v becomes %v", x, y)
		}
	}
}

// P5.11: there and back.
func TestThereAndBack(t *testing.T) {
	r := rand.New(rand.NewPCG(113, 114))
	for range 1000 {
		s, o := some(r), someOrders(r)
		if x := words(t, bits(t, s)); !same(x, s) {
			t.Fatalf("Words of Bits of %v = %v", s, x)
		}
		if x, e := pulse.Order(must[api.PuState](t)(pulse.Start(o))); !sameOrders(x, o) || e != api.OK {
			t.Fatalf("Order of Start of %v = %v, %d", o, x, e)
		}
	}
}

// P5.12: in a beat at most one pulse of one line changes, and only in the word at To, as it comes by.
func TestOneLine(t *testing.T) {
	r := rand.New(rand.NewPCG(115, 116))
	changed := 0
	for range 3000 {
		b := somePulses(t, r)
		after := beats(t, b, 1)
		_, _, to, _ := read(b.Now.Order)
		for line := range b.Lines {
			for i := range b.Lines[line] {
				if b.Lines[line][i] == after.Lines[line][i] {
					continue
				}
				changed++
				comes := to%16 == b.Now.Clock%16 && to/16 == line && i == to%16*24+b.Beat
				if !comes || b.Now.Phase != api.PuTo && b.Now.Phase != api.PuWrite || b.Now.Why != api.OrGoing {
					t.Fatalf("%v changes at %d, %d", b, line, i)
				}
			}
		}
	}
	if changed < 100 {
		t.Errorf("only %d pulses changed", changed)
	}
}
