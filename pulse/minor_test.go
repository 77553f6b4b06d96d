package pulse_test

import (
	"math/rand/v2"
	"slices"
	"testing"

	"quicksilver/api"
	"quicksilver/pulse"
)

// withSign is a word, Signed.
func withSign(word int) int { return (word+8388608)%16777216 - 8388608 }

// modulo returns the number from 0 to m - 1 that differs from n by a multiple of m.
func modulo(n, m int) int { return (n%m + m) % m }

// floor divides by 2^23, rounded down.
func floor(n int) int { return (n - modulo(n, 8388608)) / 8388608 }

// read is an order as the numbers Op, From, To and Next.
func read(word int) (what, from, to, next int) {
	return word / 2097152, word / 16384 % 128, word / 128 % 128, word % 128
}

// awaitedByDefinition is the address whose word the phase waits for, or -1.
func awaitedByDefinition(s api.PuState) int {
	_, from, to, _ := read(s.Order)
	return []int{s.At, from, to, -1, to}[s.Phase]
}

// writtenByDefinition is the word by which the one at To is replaced, and whether it is.
func writtenByDefinition(s api.PuState, word int) (int, bool) {
	what, _, _, _ := read(s.Order)
	switch {
	case s.Phase == api.PuWrite:
		return modulo(floor(s.Product), 16777216), true
	case s.Phase != api.PuTo || what == api.OrMul:
		return word, false
	case what == api.OrMove:
		return s.Operand, true
	case what == api.OrAdd:
		return modulo(word+s.Operand, 16777216), true
	case what == api.OrSub:
		return modulo(word-s.Operand, 16777216), true
	}
	return s.Tape[s.Taken], true
}

// countByDefinition changes the product for a bit of Operand.
func countByDefinition(s *api.PuState, k int) {
	if s.Operand/(1<<k)%2 == 0 {
		return
	}
	part := withSign(s.Other) * (1 << k)
	if k == 23 {
		part = -part
	}
	s.Product = modulo(s.Product+part+1<<47, 1<<48) - 1<<47
}

// endsByDefinition says why the run ends at an order.
func endsByDefinition(s api.PuState, what int) int {
	switch {
	case what == api.OrHalt:
		return api.OrHalted
	case what == api.OrRead && s.Taken == len(s.Tape):
		return api.OrNoTape
	case what == api.OrPrint && len(s.Printed) == 200:
		return api.OrFull
	}
	return api.OrGoing
}

// phaseByDefinition does what a phase does to all but the store and the product that is made, with the word that comes by.
func phaseByDefinition(s *api.PuState, word int) {
	what, _, to, next := read(s.Order)
	done := false
	switch s.Phase {
	case api.PuFetch:
		what, _, _, _ := read(word)
		if s.Why = endsByDefinition(*s, what); s.Why != api.OrGoing {
			return
		}
		s.Order, s.Phase = word, api.PuFrom
		if what == api.OrRead {
			s.Phase = api.PuTo
		}
	case api.PuFrom:
		s.Operand, s.Phase = word, api.PuTo
		if what == api.OrPrint {
			s.Printed = append(s.Printed, word)
		}
		if what == api.OrTest && withSign(word) < 0 {
			next = to
		}
		done = what == api.OrPrint || what == api.OrTest
	case api.PuTo:
		if what == api.OrMul {
			s.Other, s.Product, s.Count, s.Phase = word, 0, 12, api.PuCount
			return
		}
		if what == api.OrRead {
			s.Taken++
		}
		done = true
	case api.PuCount:
		if s.Count--; s.Count == 0 {
			s.Phase = api.PuWrite
		}
	case api.PuWrite:
		done = true
	}
	if done {
		s.At, s.Done, s.Phase = next, s.Done+1, api.PuFetch
	}
}

// minorByDefinition does a minor cycle as the chapter says it.
func minorByDefinition(s *api.PuState) {
	if s.Why != api.OrGoing {
		return
	}
	if s.Clock == 1000000000 {
		s.Why = api.OrLate
		return
	}
	if at := awaitedByDefinition(*s); at == -1 {
		countByDefinition(s, 24-2*s.Count)
		countByDefinition(s, 25-2*s.Count)
		phaseByDefinition(s, 0)
	} else if at%16 == s.Clock%16 {
		word := s.Store[at]
		if to, writes := writtenByDefinition(*s, word); writes {
			s.Store[at] = to
		}
		phaseByDefinition(s, word)
	}
	if s.Why == api.OrGoing {
		s.Clock++
	}
}

// P5.3: any states, against the chapter's definitions.
func TestMinorsByDefinition(t *testing.T) {
	r := rand.New(rand.NewPCG(81, 82))
	phases, whys := map[int]int{}, map[int]int{}
	for range 4000 {
		s, many := some(r), r.IntN(300)
		if r.IntN(3) == 0 {
			many = r.IntN(3)
		}
		want := cloned(s)
		for range many {
			minorByDefinition(&want)
			phases[want.Phase]++
		}
		got := minors(t, s, many)
		if !same(got, want) {
			t.Fatalf("Minors of %v, %d = %v; not %v", s, many, got, want)
		}
		if part, at, e := pulse.Check(got); part != 0 || at != 0 || e != api.OK {
			t.Fatalf("Check of %v = %d, %d, %d", got, part, at, e)
		}
		whys[got.Why]++
	}
	for i := range 5 {
		if phases[i] < 1000 || whys[i] < 50 {
			t.Errorf("%d: only %d times the phase, %d times why a run ended", i, phases[i], whys[i])
		}
	}
}

// P5.3: how many minor cycles one call does.
func TestMinorsRange(t *testing.T) {
	s := begin(t, []int{op(api.OrTest, 1, 0, 0)}, nil)
	for _, many := range beyond(20000) {
		if x, e := pulse.Minors(s, many); !same(x, api.PuState{}) || e != api.ErrRange {
			t.Errorf("Minors of %d = %v, %d", many, x, e)
		}
	}
	for many, done := range map[int]int{0: 0, 1: 0, 2: 1, 16: 1, 18: 2, 20000: 1250} {
		if x, e := pulse.Minors(s, many); x.Clock != many || x.Done != done || e != api.OK {
			t.Errorf("Minors of %d = %v, %d", many, x, e)
		}
	}
}

// P5.3: why a run ends, and that nothing else changes then, neither Order nor Clock; the time comes first.
func TestEnds(t *testing.T) {
	for _, c := range []struct {
		word, taken, printed, clock int
		why                         int
	}{
		{op(api.OrHalt, 1, 2, 3), 0, 0, 0, api.OrHalted},
		{op(api.OrHalt, 1, 2, 3), 3, 200, 16, api.OrHalted},
		{op(api.OrHalt, 1, 2, 3), 3, 200, 1000000000, api.OrLate},
		{op(api.OrRead, 1, 2, 3), 3, 200, 999999984, api.OrNoTape},
		{op(api.OrRead, 1, 2, 3), 3, 0, 1000000000, api.OrLate},
		{op(api.OrPrint, 1, 2, 3), 3, 200, 0, api.OrFull},
		{op(api.OrPrint, 1, 2, 3), 0, 200, 1000000000, api.OrLate},
		{op(api.OrMove, 1, 2, 3), 0, 0, 1000000000, api.OrLate},
	} {
		s := program(t)
		s.Store[0], s.Taken, s.Printed, s.Clock = c.word, c.taken, make([]int, c.printed), c.clock
		s.Order, s.Operand, s.Other, s.Product = 77, 78, 79, -80
		want := cloned(s)
		want.Why = c.why
		for _, many := range []int{1, 2, 500} {
			if got := minors(t, s, many); !same(got, want) {
				t.Errorf("Minors of %v, %d = %v", s, many, got)
			}
			b := bits(t, s)
			if got := words(t, beats(t, b, 24*many)); !same(got, want) {
				t.Errorf("Beats of %v, %d = %v", s, 24*many, got)
			}
		}
		if got := minors(t, s, 0); !same(got, s) {
			t.Errorf("Minors of %v, 0 = %v", s, got)
		}
	}
}

// P5.3: the orders that almost cannot be done.
func TestJustPossible(t *testing.T) {
	s := program(t)
	s.Store[0], s.Store[1], s.Taken, s.Printed = op(api.OrPrint, 1, 0, 5), 9, 3, make([]int, 199)
	if x := minors(t, s, 2); x.Why != api.OrGoing || len(x.Printed) != 200 || x.Printed[199] != 9 || x.At != 5 || x.Done != 1 {
		t.Errorf("%v", x)
	}
	s.Store[0], s.Taken = op(api.OrRead, 0, 1, 5), 2
	if x := minors(t, s, 2); x.Why != api.OrGoing || x.Taken != 3 || x.Store[1] != 16777215 || x.At != 5 || x.Done != 1 {
		t.Errorf("%v", x)
	}
	// What is in Order does not matter to PuFetch.
	s.Order, s.Taken, s.Clock = op(api.OrRead, 0, 0, 0), 3, 1
	if x := minors(t, s, 15); x.Why != api.OrGoing || x.Clock != 16 || x.Phase != api.PuFetch {
		t.Errorf("%v", x)
	}
}

// P5.3: in every phase the time can be over.
func TestLate(t *testing.T) {
	r := rand.New(rand.NewPCG(83, 84))
	for range 500 {
		s := some(r)
		s.Clock, s.Why = 1000000000, api.OrGoing
		want := cloned(s)
		want.Why = api.OrLate
		if got := minors(t, s, 1+r.IntN(3)); !same(got, want) {
			t.Fatalf("Minors of %v = %v", s, got)
		}
		if n, e := pulse.Until(s); n != 1 || e != api.OK {
			t.Fatalf("Until of %v = %d, %d", s, n, e)
		}
	}
}

// P5.3: a run that has ended stays as it is, whatever it could do, and has no further phase.
func TestEnded(t *testing.T) {
	r := rand.New(rand.NewPCG(85, 86))
	for range 500 {
		s := some(r)
		s.Why = 1 + r.IntN(4)
		if got := minors(t, s, r.IntN(20001)); !same(got, s) {
			t.Fatalf("Minors of %v = %v", s, got)
		}
		if n, e := pulse.Until(s); n != 0 || e != api.ErrDown {
			t.Fatalf("Until of %v = %d, %d", s, n, e)
		}
	}
}

// P5.3: which words come by; the word itself is one of eight with its place.
func TestWhichWordComesBy(t *testing.T) {
	for address := range 128 {
		s := program(t)
		s.Phase, s.Order, s.Clock = api.PuFrom, op(api.OrTest, address, 100, 101), 3
		for i := range s.Store {
			s.Store[i] = 1000 + i
		}
		s.Store[address] = 8388608 + address
		wait := 1 + modulo(address-3, 16)
		before, after := minors(t, s, wait-1), minors(t, s, wait)
		if before.Phase != api.PuFrom || before.Operand != 0 || after.Phase != api.PuFetch || after.Operand != 8388608+address || after.At != 100 {
			t.Errorf("the word %d: %v, %v", address, before, after)
		}
		if n, e := pulse.Until(s); n != wait || e != api.OK {
			t.Errorf("Until of %d = %d, %d", address, n, e)
		}
	}
}

// P5.3: what OrTest does with words at the ends.
func TestTests(t *testing.T) {
	for word, at := range map[int]int{0: 5, 1: 5, 8388607: 5, 8388608: 4, 16777215: 4} {
		s := begin(t, []int{op(api.OrTest, 1, 4, 5), word}, nil)
		if x := minors(t, s, 2); x.At != at || x.Done != 1 || x.Phase != api.PuFetch || len(x.Printed) > 0 || x.Operand != word {
			t.Errorf("the test of %d: %v", word, x)
		}
	}
}

// P5.3: an order can change itself; the words that were read before are as they were then.
func TestOrderThatChangesItself(t *testing.T) {
	s := begin(t, []int{op(api.OrAdd, 1, 0, 2), 128<<14 | 5, 0}, nil)
	x := minors(t, s, 17)
	if x.Store[0] != op(api.OrAdd, 1, 0, 2)+128<<14+5 || x.Order != op(api.OrAdd, 1, 0, 2) || x.At != 2 || x.Done != 1 || x.Clock != 17 {
		t.Errorf("%v", x)
	}
	// A product of a word with itself, which is replaced a major cycle after it was read as Other.
	s = begin(t, []int{op(api.OrMul, 1, 1, 2), 12582912}, nil)
	x = minors(t, s, 34)
	if x.Operand != 12582912 || x.Other != 12582912 || x.Product != 1<<44 || x.Store[1] != 2097152 || x.Clock != 34 || x.Done != 1 || x.Phase != api.PuFetch {
		t.Errorf("%v", x)
	}
	if y := minors(t, s, 33); y.Store[1] != 12582912 || y.Phase != api.PuWrite {
		t.Errorf("%v", y)
	}
}

// P5.3: a product is kept in its range, also where it began anywhere.
func TestProductRange(t *testing.T) {
	for _, c := range []struct{ operand, other, count, product, want int }{
		{4194304, 1, 1, 1<<47 - 1, 1<<47 - 1 + 4194304 - 1<<48},
		{8388608, 1, 1, -1 << 47, -1<<47 - 8388608 + 1<<48},
		{4194304, 16777215, 1, -1 << 47, -1<<47 - 4194304 + 1<<48},
		{8388608, 16777215, 1, 1<<47 - 1, 1<<47 - 1 + 8388608 - 1<<48},
		{12582912, 5, 1, 7, 7 + 4194304*5 - 8388608*5},
		{3, 8388608, 12, 0, -3 * 8388608},
		{16777212, 8388608, 12, 9, 9},
		{12, 16777215, 11, 0, -12},
	} {
		s := program(t)
		s.Phase, s.Order, s.Operand, s.Other, s.Count, s.Product = api.PuCount, op(api.OrMul, 1, 2, 3), c.operand, c.other, c.count, c.product
		if x := minors(t, s, 1); x.Product != c.want || x.Count != c.count-1 || (x.Phase == api.PuWrite) != (c.count == 1) {
			t.Errorf("%v: %v", c, x)
		}
	}
}

// P5.3: what PuWrite writes for products at the ends.
func TestWrite(t *testing.T) {
	for product, word := range map[int]int{0: 0, 8388607: 0, 8388608: 1, -1: 16777215, -8388608: 16777215, -8388609: 16777214, 1<<47 - 1: 16777215, -1 << 47: 0, 1 << 46: 8388608} {
		s := program(t)
		s.Phase, s.Order, s.Product, s.Store[16] = api.PuWrite, op(api.OrMul, 1, 16, 3), product, 5555
		if x := minors(t, s, 1); x.Store[16] != word || x.Product != product || x.At != 3 || x.Done != 1 || x.Phase != api.PuFetch {
			t.Errorf("%d: %v", product, x)
		}
	}
}

// P5.3: Until, against minor cycles that are done one by one; P5.9: it is at most 16.
func TestUntilByDefinition(t *testing.T) {
	r := rand.New(rand.NewPCG(87, 88))
	var met []int
	for range 6000 {
		s := some(r)
		if s.Why != api.OrGoing {
			continue
		}
		want, x := 0, cloned(s)
		for want == 0 || x.Phase == s.Phase && x.Why == api.OrGoing {
			minorByDefinition(&x)
			want++
		}
		n, e := pulse.Until(s)
		if n != want || e != api.OK || n > 16 {
			t.Fatalf("Until of %v = %d, %d; not %d", s, n, e, want)
		}
		if !slices.Contains(met, n) {
			met = append(met, n)
		}
	}
	if len(met) != 16 {
		t.Errorf("Until is only %v", met)
	}
}
