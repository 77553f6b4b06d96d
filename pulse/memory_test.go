package pulse_test

import (
	"math"
	"math/rand/v2"
	"slices"
	"testing"

	"quicksilver/api"
	"quicksilver/pulse"
)

// wild returns a number that may be anything, but is often one from 0 to most.
func wild(r *rand.Rand, most int) int {
	strange := []int{math.MinInt, math.MaxInt, r.Int(), -1, most + 1}
	if i := r.IntN(60); i < len(strange) {
		return strange[i]
	}
	return r.IntN(most + 1)
}

// wildWords changes a word of a list, or its length.
func wildWords(r *rand.Rand, list *[]int) {
	switch r.IntN(4) {
	case 0:
		*list = make([]int, r.IntN(210))
	case 1:
		*list = nil
	default:
		if len(*list) > 0 {
			(*list)[r.IntN(len(*list))] = wild(r, 1<<24-1)
		}
	}
}

// wildState returns what is a state at times.
func wildState(r *rand.Rand) api.PuState {
	s := some(r)
	switch r.IntN(6) {
	case 0:
		wildWords(r, []*[]int{&s.Store, &s.Tape, &s.Printed}[r.IntN(3)])
	case 1:
		s.Taken, s.Clock, s.At, s.Done, s.Why = wild(r, 5), wild(r, 1000), wild(r, 127), wild(r, 20), wild(r, 4)
	case 2:
		s.Phase, s.Order, s.Count = wild(r, 4), wild(r, 1<<24-1), wild(r, 12)
	case 3:
		s.Operand, s.Other, s.Product = wild(r, 1<<24-1), wild(r, 1<<24-1), wild(r, 1<<47-1)
	}
	return s
}

// wildPulses returns what is a state of pulses at times.
func wildPulses(t *testing.T, r *rand.Rand) api.PuBits {
	b := somePulses(t, r)
	switch r.IntN(5) {
	case 0:
		b.Lines = b.Lines[:r.IntN(9)]
	case 1:
		i := r.IntN(8)
		b.Lines[i] = append(b.Lines[i][:r.IntN(385)], make([]bool, r.IntN(2))...)
	case 2:
		b.Now = wildState(r)
		if r.IntN(3) > 0 {
			b.Now.Store = nil
		}
	case 3:
		b.Beat, b.Carry, b.Sum = wild(r, 23), wild(r, 1), wild(r, 100)
	}
	return b
}

// P5.13, P1: any arguments are accepted, and not modified; an error leaves all else zero.
func TestAnyArguments(t *testing.T) {
	r := rand.New(rand.NewPCG(121, 122))
	errors := map[api.Errno]int{}
	for range 6000 {
		s, many := wildState(r), wild(r, 60)
		before := cloned(s)
		_, _, e := pulse.Check(s)
		o, f := pulse.Order(s)
		x, g := pulse.Minors(s, many)
		n, h := pulse.Until(s)
		b, k := pulse.Bits(s)
		errors[e]++
		if k != e || e != api.OK && (f != e || g != e || h != e) {
			t.Fatalf("errors of %v: %d, %d, %d, %d, %d", s, e, f, g, h, k)
		}
		if (f != api.OK) != sameOrders(o, api.OrState{}) || (g != api.OK) != same(x, api.PuState{}) || (h != api.OK) != (n == 0) || (k != api.OK) != samePulses(b, api.PuBits{}) {
			t.Fatalf("results of %v: %v, %v, %d, %v", s, o, x, n, b)
		}
		pulse.Start(api.OrState{Store: s.Store, Tape: s.Tape, Taken: s.Taken, Printed: s.Printed, At: s.At, Time: s.Clock, Done: s.Done, Why: s.Why})
		if !same(s, before) {
			t.Fatalf("%v became %v", before, s)
		}
	}
	for _, e := range []api.Errno{api.OK, api.ErrLong, api.ErrRange, api.ErrArg} {
		if errors[e] < 100 {
			t.Errorf("Check returns %d only %d times", e, errors[e])
		}
	}
}

// P5.13, P1: the same for states of pulses.
func TestAnyPulses(t *testing.T) {
	r := rand.New(rand.NewPCG(123, 124))
	errors := map[api.Errno]int{}
	for range 4000 {
		b, many := wildPulses(t, r), wild(r, 60)
		before := clonedPulses(b)
		s, e := pulse.Words(b)
		x, f := pulse.Beats(b, many)
		errors[e]++
		if e != api.OK && e != api.ErrDown && f != e || (e != api.OK) != same(s, api.PuState{}) || (f != api.OK) != samePulses(x, api.PuBits{}) {
			t.Fatalf("results of %v, %d: %v, %d; %v, %d", b, many, s, e, x, f)
		}
		if !samePulses(b, before) {
			t.Fatalf("%v became %v", before, b)
		}
	}
	for _, e := range []api.Errno{api.OK, api.ErrLong, api.ErrRange, api.ErrArg, api.ErrDown} {
		if errors[e] < 50 {
			t.Errorf("Words returns %d only %d times", e, errors[e])
		}
	}
}

// room returns words with much room behind them.
func room(words ...int) []int { return append(make([]int, 0, 300), words...) }

// spoil changes all words of a list, and what is behind them.
func spoil(lists ...[]int) {
	for _, words := range lists {
		words = words[:cap(words)]
		for i := range words {
			words[i] = 99
		}
	}
}

// spoilLines turns all pulses, and what is behind them.
func spoilLines(lines [][]bool) {
	for _, line := range lines {
		line = line[:cap(line)]
		for i := range line {
			line[i] = !line[i]
		}
	}
}

// P5.13: results of states are new memory, also where nothing was done, and where there is room behind the words.
func TestNewMemory(t *testing.T) {
	for _, many := range []int{0, 1, 6, 127, 142, 1000} {
		s := program(t)
		s.Tape, s.Printed = room(s.Tape...), room(5)
		before := cloned(s)
		behind := slices.Concat(s.Tape[:300], s.Printed[:300])
		first := minors(t, s, many)
		want := cloned(first)
		o, e := pulse.Order(s)
		b := bits(t, s)
		again := clonedPulses(b)
		spoil(first.Store, first.Tape, first.Printed, o.Store, o.Tape, o.Printed)
		if e != api.OK || !samePulses(b, again) {
			t.Errorf("after %d: Order: %d; Bits shares memory", many, e)
		}
		spoil(b.Now.Tape, b.Now.Printed)
		spoilLines(b.Lines)
		if !same(s, before) || !slices.Equal(behind, slices.Concat(s.Tape[:300], s.Printed[:300])) || !same(minors(t, s, many), want) {
			t.Errorf("after %d: memory is shared", many)
		}
	}
}

// P5.13: the same for the results of Start.
func TestNewMemoryOfStart(t *testing.T) {
	o := api.OrState{Store: make([]int, 128), Tape: room(1, 2), Printed: room(3)}
	s := must[api.PuState](t)(pulse.Start(o))
	spoil(s.Store, s.Tape, s.Printed)
	if o.Store[0] != 0 || !slices.Equal(o.Tape[:300], append([]int{1, 2}, make([]int, 298)...)) || !slices.Equal(o.Printed[:300], append([]int{3}, make([]int, 299)...)) {
		t.Errorf("Start shares memory: %v", o)
	}
}

// P5.13: results of pulses are new memory; no two lines share any.
func TestNewMemoryOfPulses(t *testing.T) {
	for _, many := range []int{0, 1, 24, 130, 127 * 24, 60000} {
		b := bits(t, program(t))
		b.Now.Tape, b.Now.Printed = room(b.Now.Tape...), room(5)
		before := clonedPulses(b)
		behind := slices.Concat(b.Now.Tape[:300], b.Now.Printed[:300])
		first := beats(t, b, many)
		want := clonedPulses(first)
		s := words(t, b)
		spoil(s.Store, s.Tape, s.Printed, first.Now.Tape, first.Now.Printed)
		if !slices.EqualFunc(first.Lines, want.Lines, slices.Equal) {
			t.Errorf("after %d: Words shares memory", many)
		}
		for i, line := range first.Lines {
			spoilLines([][]bool{line})
			for j, other := range first.Lines {
				if j > i && !slices.Equal(other, want.Lines[j]) {
					t.Errorf("after %d: the lines %d and %d share memory", many, i, j)
				}
			}
		}
		first.Lines[0] = nil
		if !samePulses(b, before) || !slices.Equal(behind, slices.Concat(b.Now.Tape[:300], b.Now.Printed[:300])) || !samePulses(beats(t, b, many), want) {
			t.Errorf("after %d: memory is shared", many)
		}
	}
}
