package library_test

import (
	"math/rand/v2"
	"slices"
	"testing"

	"quicksilver/api"
	"quicksilver/library"
	"quicksilver/order"
)

// printed runs a program to its end, for a reason, and returns what it prints.
func printed(t *testing.T, p api.FoProgram, why int, tape ...int) []int {
	t.Helper()
	s, e := order.Begin(p.Store, tape, p.Start)
	if e != api.OK {
		t.Fatalf("Begin: %d", e)
	}
	for s.Why == api.OrGoing && s.Done < 100000 {
		if s, e = order.Run(s, api.MaxOrOrders); e != api.OK {
			t.Fatalf("Run: %d", e)
		}
	}
	if s.Why != why {
		t.Fatalf("the run of %v with %v ends as %d, at %d, after %d orders", p, tape, s.Why, s.At, s.Done)
	}
	return s.Printed
}

// nameOf returns the name of a kind.
func nameOf(kind int) string { return []string{"", "root", "quot", "cube"}[kind] }

// kinds is a catalogue with the routines of some kinds.
func kinds(t *testing.T, of ...int) []api.LiEntry {
	t.Helper()
	var cat []api.LiEntry
	for _, kind := range of {
		cat = append(cat, entry(nameOf(kind), routine(t, kind)))
	}
	return cat
}

// P8.7: a routine that is called comes to what it has to, with ends, and with arguments made at random.
func TestCalled(t *testing.T) {
	r := rand.New(rand.NewPCG(8, 7))
	ends := []int{0, 1, 2, 3, one/2 - 1, one / 2, one/2 + 1, one/4 - 1, one / 4, one/4 + 1, one - 3, one - 2, one - 1}
	for kind := api.LiRoot; kind <= api.LiCube; kind++ {
		many := argsOf(kind)
		p := build(t, kinds(t, kind), many, call(nameOf(kind), many, []int{0, 1}[:many]...))
		try := func(args []int) {
			t.Helper()
			words := printed(t, p, api.OrHalted, args...)
			want := value(t, kind, args...)
			if !slices.Equal(words, []int{want}) {
				t.Fatalf("the routine of %d with %v prints %v; not %d", kind, args, words, want)
			}
			if is, e := library.Accept(kind, args, words[0]); !is || e != api.OK {
				t.Fatalf("Accept of %d with %v and %d = %t, %d", kind, args, words[0], is, e)
			}
		}
		for _, first := range ends {
			for _, second := range ends {
				try([]int{first, second}[:many])
			}
		}
		for range 3000 {
			try(someArgs(r, kind))
		}
	}
}

// P8.7: a root where it changes: at the least number with this root, and at the one below.
func TestRootsAtEdges(t *testing.T) {
	p := build(t, kinds(t, api.LiRoot), 1, call("root", 1, 0))
	for root := 2897; root < one; root += 9973 {
		least := root * root / one
		for _, n := range []int{least - 1, least} {
			words := printed(t, p, api.OrHalted, n)
			if len(words) != 1 || (words[0] >= root) != (n == least) || words[0] != value(t, api.LiRoot, n) {
				t.Fatalf("the root of %d is %v", n, words)
			}
		}
	}
}

// P8.9: routines called again and again, by registers in any order, in catalogues in any order.
func TestCalledAgain(t *testing.T) {
	r := rand.New(rand.NewPCG(8, 9))
	kindOf := map[string]int{"root": api.LiRoot, "quot": api.LiQuot, "cube": api.LiCube}
	met := 0
	for range 3000 {
		cat := kinds(t, api.LiRoot, api.LiQuot, api.LiCube)
		r.Shuffle(3, func(i, k int) { cat[i], cat[k] = cat[k], cat[i] })
		cat = append([]api.LiEntry{entry("filler", long(1+r.IntN(20)))}, cat...)
		inputs := 1 + r.IntN(6)
		calls := someCalls(r, cat, inputs)
		if slices.ContainsFunc(calls, func(c api.LiCall) bool { return c.Name == "filler" }) {
			continue
		}
		p, e := library.Build(cat, inputs, calls)
		if e == api.ErrLong {
			continue
		}
		met++
		var tape, want []int
		for range inputs {
			tape = append(tape, someNumber(r))
		}
		registers := make([]int, 8)
		copy(registers, tape)
		for _, c := range calls {
			var args []int
			for _, arg := range c.Args {
				args = append(args, registers[arg])
			}
			registers[c.To] = value(t, kindOf[c.Name], args...)
			want = append(want, registers[c.To])
		}
		if words := printed(t, p, api.OrHalted, tape...); e != api.OK || !slices.Equal(words, want) {
			t.Fatalf("%v with %v prints %v; not %v", calls, tape, words, want)
		}
	}
	if met < 500 {
		t.Errorf("only %d programs were run", met)
	}
}

// P8.9: a routine at every base, called in a circle until the tape is at its end.
func TestPlacedAnywhere(t *testing.T) {
	r := rand.New(rand.NewPCG(8, 10))
	for kind := api.LiRoot; kind <= api.LiCube; kind++ {
		c := routine(t, kind)
		for base := range 129 - len(c.Words) {
			words, e := library.Place(c, base)
			if e != api.OK {
				t.Fatalf("Place: %d", e)
			}
			// The orders that call lie in front of the routine, or behind it.
			at := 120
			if base > 60 {
				at = 0
			}
			store := make([]int, 128)
			copy(store[base:], words)
			start, link := at, at+7
			for _, arg := range c.Args {
				store[at] = word(op(api.OrRead, 0, base+arg, at+1))
				at++
			}
			store[at] = word(op(api.OrMove, link, base+c.Exit, base+c.Entry))
			store[at+1] = word(op(api.OrPrint, base+c.Result, 0, start))
			store[link] = word(op(api.OrMove, 0, 0, at+1))
			var tape, want []int
			for range 6 {
				args := someArgs(r, kind)
				tape, want = append(tape, args...), append(want, value(t, kind, args...))
			}
			got := printed(t, api.FoProgram{Store: store, Start: start}, api.OrNoTape, tape...)
			if !slices.Equal(got, want) {
				t.Fatalf("the routine of %d at %d prints %v; not %v", kind, base, got, want)
			}
		}
	}
}
