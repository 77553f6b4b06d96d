package order_test

import (
	"math"
	"math/rand/v2"
	"slices"
	"testing"

	"quicksilver/api"
	"quicksilver/order"
)

// wild returns a number that may be anything, but is often one from 0 to most.
func wild(r *rand.Rand, most int) int {
	switch r.IntN(40) {
	case 0:
		return math.MinInt
	case 1:
		return math.MaxInt
	case 2:
		return r.Int()
	case 3:
		return -1 - r.IntN(3)
	case 4:
		return most + 1
	}
	return r.IntN(most + 1)
}

// wildWords returns what are words at times.
func wildWords(r *rand.Rand, count int) []int {
	words := someWords(r, count)
	if r.IntN(15) == 0 {
		words = make([]int, r.IntN(210))
	}
	if len(words) > 0 {
		words[r.IntN(len(words))] = wild(r, 1<<24-1)
	}
	return words
}

// wildState returns what is a state at times.
func wildState(r *rand.Rand) api.OrState {
	s := someState(r)
	switch r.IntN(6) {
	case 0:
		s.Store = wildWords(r, 128)
	case 1:
		s.Tape = wildWords(r, len(s.Tape))
	case 2:
		s.Printed = wildWords(r, len(s.Printed))
	case 3:
		s.Taken, s.Time, s.At, s.Done, s.Why = wild(r, 5), wild(r, 1000), wild(r, 127), wild(r, 20), wild(r, 4)
	}
	return s
}

// P4.13, P1: any arguments are accepted, and not modified.
func TestAnyArguments(t *testing.T) {
	r := rand.New(rand.NewPCG(61, 62))
	errors := map[api.Errno]int{}
	for range 20000 {
		s, most := wildState(r), wild(r, 100)
		before := cloned(s)
		o := op(wild(r, 7), wild(r, 127), wild(r, 127), wild(r, 127))
		order.Encode(o)
		order.Decode(most)
		order.Signed(most)
		order.When(o, wild(r, 1000000000), r.IntN(2) == 0)
		order.Begin(s.Store, s.Tape, wild(r, 127))
		_, _, e := order.Check(s)
		_, f := order.Run(s, most)
		_, g := order.Trace(s, most)
		if f != g || e != api.OK && f != e {
			t.Fatalf("errors of %v, %d: %d, %d, %d", s, most, e, f, g)
		}
		errors[e]++
		if !same(s, before) {
			t.Fatalf("%v became %v", before, s)
		}
	}
	for _, e := range []api.Errno{api.OK, api.ErrLong, api.ErrRange, api.ErrArg} {
		if errors[e] < 100 {
			t.Errorf("Check returns %d only %d times", e, errors[e])
		}
	}
}

// P4.13: results are new memory, also where nothing was done, and where there is room behind what was printed.
func TestNewMemory(t *testing.T) {
	room := func(words ...int) []int { return append(make([]int, 0, 200), words...) }
	spoil := func(words []int) {
		words = words[:cap(words)]
		for i := range words {
			words[i] = 99
		}
	}
	store, tape := make([]int, 128), room(3, 4, 16777215)
	copy(store, program())
	for _, most := range []int{0, 1, 8, 9, 100} {
		s := begin(t, store, tape, 0)
		s.Printed = room(5)
		before, behind := cloned(s), slices.Clone(s.Printed[:200])
		after, again := run(t, s, most), run(t, s, most)
		want := cloned(again)
		for _, words := range [][]int{after.Store, after.Tape, after.Printed} {
			spoil(words)
		}
		if !same(s, before) || !slices.Equal(s.Printed[:200], behind) || !same(again, want) || !same(run(t, s, most), want) {
			t.Errorf("after %d orders there is shared memory", most)
		}
		steps := trace(t, s, most)
		clear(steps)
		if len(steps) > 0 && trace(t, s, most)[0].Until != 8 {
			t.Errorf("Trace of %d shares memory", most)
		}
		for _, words := range [][]int{s.Store, s.Tape} {
			spoil(words)
		}
		if !slices.Equal(tape, []int{3, 4, 16777215}) || store[0] != 12583560 {
			t.Fatalf("Begin shares memory: %v, %v", store, tape)
		}
	}
}
