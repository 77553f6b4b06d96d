package pulse_test

import (
	"slices"
	"testing"

	"quicksilver/api"
	"quicksilver/pulse"
)

// expect tests Check, and that the other functions with a state return its error first.
func expect(t *testing.T, s api.PuState, part, at int, e api.Errno) {
	t.Helper()
	if p, a, f := pulse.Check(s); p != part || a != at || f != e {
		t.Errorf("Check of %v = %d, %d, %d; not %d, %d, %d", s, p, a, f, part, at, e)
	}
	if e == api.OK {
		return
	}
	if o, f := pulse.Order(s); !sameOrders(o, api.OrState{}) || f != e {
		t.Errorf("Order of %v = %v, %d", s, o, f)
	}
	for _, many := range []int{-1, 0, 3, 20001} {
		if x, f := pulse.Minors(s, many); !same(x, api.PuState{}) || f != e {
			t.Errorf("Minors of %v, %d = %v, %d", s, many, x, f)
		}
	}
	if n, f := pulse.Until(s); n != 0 || f != e {
		t.Errorf("Until of %v = %d, %d", s, n, f)
	}
	if b, f := pulse.Bits(s); !samePulses(b, api.PuBits{}) || f != e {
		t.Errorf("Bits of %v = %v, %d", s, b, f)
	}
}

// P5.1: the lists, which come before all else, the first wrong word of each.
func TestCheckLists(t *testing.T) {
	for _, c := range []struct {
		change   func(s *api.PuState)
		part, at int
		e        api.Errno
	}{
		{func(s *api.PuState) {}, 0, 0, api.OK},
		{func(s *api.PuState) { *s = api.PuState{} }, 1, 0, api.ErrLong},
		{func(s *api.PuState) { s.Store = s.Store[:127] }, 1, 0, api.ErrLong},
		{func(s *api.PuState) { s.Store = append(s.Store, 0) }, 1, 0, api.ErrLong},
		{func(s *api.PuState) { s.Store, s.Count = nil, 1 }, 1, 0, api.ErrLong},
		{func(s *api.PuState) { s.Tape, s.Store[3] = make([]int, 201), -1 }, 1, 0, api.ErrLong},
		{func(s *api.PuState) { s.Printed, s.Tape[0] = make([]int, 201), -1 }, 1, 0, api.ErrLong},
		{func(s *api.PuState) { s.Tape, s.Printed = make([]int, 200), make([]int, 200) }, 0, 0, api.OK},
		{func(s *api.PuState) { s.Store[0], s.Store[127] = 16777215, 16777216 }, 2, 127, api.ErrRange},
		{func(s *api.PuState) { s.Store[9], s.Store[8], s.Tape[0] = -1, -1, -1 }, 2, 8, api.ErrRange},
		{func(s *api.PuState) { s.Tape[2], s.Tape[1], s.Printed = 16777216, -1, []int{-1} }, 3, 1, api.ErrRange},
		{func(s *api.PuState) { s.Printed, s.Taken = []int{1, 2, 16777216}, 9 }, 4, 2, api.ErrRange},
	} {
		s := program(t)
		c.change(&s)
		expect(t, s, c.part, c.at, c.e)
	}
}

// P5.1: all numbers, at the ends of their ranges and beyond.
func TestCheckNumbers(t *testing.T) {
	for _, c := range []struct {
		number   func(s *api.PuState) *int
		greatest int
	}{
		{func(s *api.PuState) *int { return &s.Taken }, 3},
		{func(s *api.PuState) *int { return &s.Clock }, 1000000000},
		{func(s *api.PuState) *int { return &s.At }, 127},
		{func(s *api.PuState) *int { return &s.Phase }, 4},
		{func(s *api.PuState) *int { return &s.Order }, 16777215},
		{func(s *api.PuState) *int { return &s.Operand }, 16777215},
		{func(s *api.PuState) *int { return &s.Other }, 16777215},
		{func(s *api.PuState) *int { return &s.Done }, 5},
		{func(s *api.PuState) *int { return &s.Why }, 4},
	} {
		for _, n := range []int{0, c.greatest} {
			s := program(t)
			s.Order, s.Clock = op(api.OrMul, 1, 2, 3), 5
			*c.number(&s) = n
			expect(t, s, 0, 0, api.OK)
		}
		for _, n := range beyond(c.greatest) {
			s := program(t)
			s.Clock = 5
			*c.number(&s) = n
			expect(t, s, 5, 0, api.ErrRange)
			// What is part 6 comes later.
			s.Count = 1
			expect(t, s, 5, 0, api.ErrRange)
		}
	}
}

// P5.1: products, and counts, which are examined both in part 5 and in part 6.
func TestCheckProductAndCount(t *testing.T) {
	s := program(t)
	for _, n := range []int{1<<47 - 1, -1 << 47, 0, -1} {
		s.Product = n
		expect(t, s, 0, 0, api.OK)
	}
	for _, n := range append(beyond(1<<47 - 1)[1:], -1<<47-1) {
		s.Product = n
		expect(t, s, 5, 0, api.ErrRange)
	}
	for phase := range 5 {
		s := program(t)
		s.Phase, s.Order = phase, op(api.OrMul, 1, 2, 3)
		for _, n := range beyond(12) {
			s.Count = n
			expect(t, s, 5, 0, api.ErrRange)
		}
		for n := range 13 {
			s.Count = n
			if (phase == api.PuCount) == (n > 0) {
				expect(t, s, 0, 0, api.OK)
			} else {
				expect(t, s, 6, 0, api.ErrArg)
			}
		}
	}
}

// P5.1: which orders belong to which phase.
func TestCheckOrders(t *testing.T) {
	for phase := range 5 {
		for what := range 8 {
			s := program(t)
			s.Phase, s.Order = phase, op(what, 127, 0, 127)
			if phase == api.PuCount {
				s.Count = 12
			}
			if slices.Contains(ordersOf(phase), what) {
				expect(t, s, 0, 0, api.OK)
			} else {
				expect(t, s, 6, 0, api.ErrArg)
			}
			// A run that has ended makes no difference.
			s.Why = api.OrHalted
			if _, _, e := pulse.Check(s); (e == api.OK) != slices.Contains(ordersOf(phase), what) {
				t.Errorf("Check of %v: %d", s, e)
			}
		}
	}
}

// P5.1: the tape matters to OrRead alone, and there in PuTo, the paper to OrPrint alone, in PuFrom.
func TestCheckTapeAndPaper(t *testing.T) {
	for phase := range 5 {
		for _, what := range ordersOf(phase) {
			s := program(t)
			s.Phase, s.Order, s.Taken, s.Printed = phase, op(what, 1, 2, 3), 3, make([]int, 200)
			if phase == api.PuCount {
				s.Count = 1
			}
			if phase == api.PuTo && what == api.OrRead || phase == api.PuFrom && what == api.OrPrint {
				expect(t, s, 6, 0, api.ErrArg)
				s.Taken, s.Printed = 2, s.Printed[:199]
			}
			expect(t, s, 0, 0, api.OK)
		}
	}
}

// The error of a state of pulses: of Words and Beats alike, and first the one that is named first.
func TestErrorsOfPulses(t *testing.T) {
	for i, c := range []struct {
		change func(b *api.PuBits)
		e      api.Errno
	}{
		{func(b *api.PuBits) {}, api.OK},
		{func(b *api.PuBits) { *b = api.PuBits{} }, api.ErrLong},
		{func(b *api.PuBits) { b.Lines = b.Lines[:7] }, api.ErrLong},
		{func(b *api.PuBits) { b.Lines, b.Now.At = append(b.Lines, b.Lines[0]), -1 }, api.ErrLong},
		{func(b *api.PuBits) { b.Lines[7], b.Beat = b.Lines[7][:383], -1 }, api.ErrLong},
		{func(b *api.PuBits) { b.Lines[0], b.Now.Count = append(b.Lines[0], false), 1 }, api.ErrLong},
		{func(b *api.PuBits) { b.Lines[3] = nil }, api.ErrLong},
		{func(b *api.PuBits) { b.Now.Store, b.Now.At = make([]int, 128), -1 }, api.ErrLong},
		{func(b *api.PuBits) { b.Now.Store = []int{} }, api.OK},
		{func(b *api.PuBits) { b.Now.Store, b.Carry = []int{0}, 7 }, api.ErrLong},
		{func(b *api.PuBits) { b.Now.Tape, b.Beat = make([]int, 201), -1 }, api.ErrLong},
		{func(b *api.PuBits) { b.Now.Printed, b.Beat = make([]int, 201), -1 }, api.ErrLong},
		{func(b *api.PuBits) { b.Now.Tape[0] = -1 }, api.ErrRange},
		{func(b *api.PuBits) { b.Now.Clock = -1 }, api.ErrRange},
		{func(b *api.PuBits) { b.Now.Count, b.Beat = 1, 24 }, api.ErrArg},
		{func(b *api.PuBits) { b.Now.Phase, b.Sum = api.PuTo, -1 }, api.ErrArg},
	} {
		b := bits(t, program(t))
		c.change(&b)
		if s, e := pulse.Words(b); (e != api.OK) != same(s, api.PuState{}) || e != c.e {
			t.Errorf("%d: Words = %v, %d", i, s, e)
		}
		for _, many := range []int{-1, 0, 60001} {
			want := c.e
			if want == api.OK && many != 0 {
				want = api.ErrRange
			}
			if x, e := pulse.Beats(b, many); (e != api.OK) != samePulses(x, api.PuBits{}) || e != want {
				t.Errorf("%d: Beats of %d = %v, %d", i, many, x, e)
			}
		}
	}
}

// The error of a state of pulses: beats, carries and sums.
func TestErrorsOfBeats(t *testing.T) {
	b := bits(t, program(t))
	test := func(beat, carry, sum int, stated bool) {
		t.Helper()
		b.Beat, b.Carry, b.Sum = beat, carry, sum
		want := api.OK
		if !stated {
			want = api.ErrRange
		}
		if x, e := pulse.Beats(b, 0); e != want || stated && !samePulses(x, b) {
			t.Errorf("Beats of %d, %d, %d = %v, %d", beat, carry, sum, x, e)
		}
		if stated && beat > 0 {
			want = api.ErrDown
		}
		if s, e := pulse.Words(b); e != want || (e == api.OK) == same(s, api.PuState{}) {
			t.Errorf("Words of %d, %d, %d = %v, %d", beat, carry, sum, s, e)
		}
	}
	for _, beat := range beyond(23) {
		test(beat, 0, 0, false)
	}
	for beat := range 24 {
		test(beat, 0, 0, true)
		test(beat, 1, 0, beat > 0)
		test(beat, 0, 1<<beat-1, true)
		test(beat, min(beat, 1), 1<<beat-1, true)
		for _, carry := range beyond(1) {
			test(beat, carry, 0, false)
		}
		for _, sum := range beyond(1<<beat - 1) {
			test(beat, 0, sum, false)
		}
	}
}
