package pulse_test

import (
	"math"
	"math/rand/v2"
	"slices"
	"testing"

	"quicksilver/api"
	"quicksilver/order"
	"quicksilver/pulse"
)

// op returns an order as a word.
func op(what, from, to, next int) int { return what<<21 | from<<14 | to<<7 | next }

// must returns what has no error.
func must[T any](t *testing.T) func(value T, e api.Errno) T {
	return func(value T, e api.Errno) T {
		t.Helper()
		if e != api.OK {
			t.Fatalf("error %d", e)
		}
		return value
	}
}

// begin returns the state at the beginning of a program that starts at 0.
func begin(t *testing.T, store, tape []int) api.PuState {
	t.Helper()
	return must[api.PuState](t)(pulse.Start(must[api.OrState](t)(order.Begin(store, tape, 0))))
}

// minors is Minors of what has no error, also for more than one call does.
func minors(t *testing.T, s api.PuState, many int) api.PuState {
	t.Helper()
	for many > 20000 {
		s = must[api.PuState](t)(pulse.Minors(s, 20000))
		many -= 20000
	}
	return must[api.PuState](t)(pulse.Minors(s, many))
}

// beats is Beats of what has no error.
func beats(t *testing.T, b api.PuBits, many int) api.PuBits {
	t.Helper()
	return must[api.PuBits](t)(pulse.Beats(b, many))
}

// bits is Bits of what has no error.
func bits(t *testing.T, s api.PuState) api.PuBits {
	t.Helper()
	return must[api.PuBits](t)(pulse.Bits(s))
}

// words is Words of what has no error.
func words(t *testing.T, b api.PuBits) api.PuState {
	t.Helper()
	return must[api.PuState](t)(pulse.Words(b))
}

// program is s of the chapter's examples.
func program(t *testing.T) api.PuState {
	t.Helper()
	return begin(t, []int{0: 12583560, 8: 10569226, 10: 4278016, 12: 14909453}, []int{3, 4, 16777215})
}

// product is the beginning of M of the chapter's examples.
func product(t *testing.T) api.PuState {
	t.Helper()
	return begin(t, []int{op(api.OrMul, 1, 2, 3), 4194304, 14680064}, nil)
}

// same says whether two states are equal.
func same(a, b api.PuState) bool {
	lists := slices.Equal(a.Store, b.Store) && slices.Equal(a.Tape, b.Tape) && slices.Equal(a.Printed, b.Printed)
	return lists && numbers(a) == numbers(b)
}

// numbers is all of a state but its lists.
func numbers(s api.PuState) [11]int {
	return [11]int{s.Taken, s.Clock, s.At, s.Phase, s.Order, s.Operand, s.Other, s.Product, s.Count, s.Done, s.Why}
}

// sameOrders says whether two states of layer 4 are equal.
func sameOrders(a, b api.OrState) bool {
	lists := slices.Equal(a.Store, b.Store) && slices.Equal(a.Tape, b.Tape) && slices.Equal(a.Printed, b.Printed)
	return lists && [5]int{a.Taken, a.At, a.Time, a.Done, a.Why} == [5]int{b.Taken, b.At, b.Time, b.Done, b.Why}
}

// samePulses says whether two states of pulses are equal.
func samePulses(a, b api.PuBits) bool {
	return slices.EqualFunc(a.Lines, b.Lines, slices.Equal) && same(a.Now, b.Now) && [3]int{a.Beat, a.Carry, a.Sum} == [3]int{b.Beat, b.Carry, b.Sum}
}

// cloned returns a state that shares no memory.
func cloned(s api.PuState) api.PuState {
	s.Store, s.Tape, s.Printed = slices.Clone(s.Store), slices.Clone(s.Tape), slices.Clone(s.Printed)
	return s
}

// clonedPulses returns a state of pulses that shares no memory.
func clonedPulses(b api.PuBits) api.PuBits {
	b.Now, b.Lines = cloned(b.Now), slices.Clone(b.Lines)
	for i, line := range b.Lines {
		b.Lines[i] = slices.Clone(line)
	}
	return b
}

// beyond returns numbers that are not from 0 to a greatest one.
func beyond(greatest int) []int {
	return []int{-1, greatest + 1, -1 << 50, 1 << 50, math.MinInt, math.MaxInt}
}

// someWord returns a word, often one near the ends of words, with a sign or without.
func someWord(r *rand.Rand) int {
	if r.IntN(2) == 0 {
		return r.IntN(1 << 24)
	}
	return ([]int{0, 1, 3, 4194304, 8388608}[r.IntN(5)] + r.IntN(5) + 16777214) % 16777216
}

// someWords returns so many words.
func someWords(r *rand.Rand, count int) []int {
	l := make([]int, count)
	for i := range l {
		l[i] = someWord(r)
	}
	return l
}

// someStore returns a store with many orders, few of which are OrHalt.
func someStore(r *rand.Rand) []int {
	store := someWords(r, 128)
	used := 1 + r.IntN(128)
	for i := range used {
		what := 1 + r.IntN(7)
		if r.IntN(30) == 0 {
			what = api.OrHalt
		}
		store[i] = op(what, r.IntN(128), 127-r.IntN(128-used/2), r.IntN(used))
	}
	return store
}

// somePaper returns what has been printed: little, or almost all that is possible.
func somePaper(r *rand.Rand) []int {
	if r.IntN(8) == 0 {
		return someWords(r, 190+r.IntN(11))
	}
	return someWords(r, r.IntN(4))
}

// someOrders returns a state of layer 4.
func someOrders(r *rand.Rand) api.OrState {
	s := api.OrState{Store: someStore(r), Tape: someWords(r, r.IntN(20)), Printed: somePaper(r), At: r.IntN(128)}
	s.Taken = r.IntN(len(s.Tape) + 1)
	s.Time = s.At%16 + 16*r.IntN(100)
	if r.IntN(10) == 0 {
		s.Time += 16 * (62499999 - 100 - r.IntN(10))
	}
	s.Done = r.IntN(s.Time + 1)
	if r.IntN(20) == 0 {
		s.Why = r.IntN(5)
	}
	return s
}

// ordersOf returns what the order can be in a phase.
func ordersOf(phase int) []int {
	switch phase {
	case api.PuFrom:
		return []int{api.OrMove, api.OrAdd, api.OrSub, api.OrMul, api.OrTest, api.OrPrint}
	case api.PuTo:
		return []int{api.OrMove, api.OrAdd, api.OrSub, api.OrMul, api.OrRead}
	case api.PuCount, api.PuWrite:
		return []int{api.OrMul}
	}
	return []int{api.OrHalt, api.OrMove, api.OrAdd, api.OrSub, api.OrMul, api.OrTest, api.OrRead, api.OrPrint}
}

// some returns any state, in each phase.
func some(r *rand.Rand) api.PuState {
	phase := r.IntN(5)
	what := ordersOf(phase)[r.IntN(len(ordersOf(phase)))]
	o := someOrders(r)
	if phase == api.PuTo && what == api.OrRead {
		o.Tape, o.Taken = append(o.Tape, someWord(r)), r.IntN(len(o.Tape)+1)
	}
	if phase == api.PuFrom && what == api.OrPrint && len(o.Printed) == 200 {
		o.Printed = o.Printed[:199]
	}
	s := api.PuState{
		Store: o.Store, Tape: o.Tape, Taken: o.Taken, Printed: o.Printed, At: o.At, Done: o.Done, Why: o.Why,
		Clock: o.Time + r.IntN(16), Phase: phase,
		Order:   op(what, r.IntN(128), r.IntN(128), r.IntN(128)),
		Operand: someWord(r), Other: someWord(r),
		Product: r.IntN(1<<48) - 1<<47,
	}
	if r.IntN(4) == 0 {
		s.Product = []int{0, 1<<47 - 1, -1 << 47, -1, 8388607, -8388608, -8388609}[r.IntN(7)]
	}
	if phase == api.PuCount {
		s.Count = 1 + r.IntN(12)
	}
	if r.IntN(15) == 0 {
		s.Clock = 1000000000 - r.IntN(20)
	}
	return s
}

// P5.3, P5.2: the chapter's examples.
func TestExamples(t *testing.T) {
	s := program(t)
	want := cloned(s)
	want.Clock, want.Phase, want.Order = 1, api.PuTo, 12583560
	if got := minors(t, s, 1); !same(got, want) {
		t.Errorf("after 1: %v", got)
	}
	want.Clock, want.Phase, want.At, want.Store[5], want.Done, want.Taken = 6, api.PuFetch, 8, 3, 1, 1
	six := minors(t, s, 6)
	if !same(six, want) {
		t.Errorf("after 6: %v", six)
	}
	between := api.OrState{Store: want.Store, Tape: want.Tape, Taken: 1, At: 8, Time: 8, Done: 1}
	if got, e := pulse.Order(six); !sameOrders(got, between) || e != api.OK {
		t.Errorf("Order = %v, %d", got, e)
	}
	for many, want := range map[int]int{0: 1, 1: 5, 6: 3} {
		if got, e := pulse.Until(minors(t, s, many)); got != want || e != api.OK {
			t.Errorf("Until after %d = %d, %d", many, got, e)
		}
	}
	if got := words(t, beats(t, bits(t, s), 24)); !same(got, minors(t, s, 1)) {
		t.Errorf("after 24 beats: %v", got)
	}
}

// P5.3: the chapter's examples of a product, with all registers.
func TestExamplesOfProduct(t *testing.T) {
	s := product(t)
	want := cloned(s)
	want.Clock, want.Phase, want.Order, want.Operand, want.Other, want.Count = 3, api.PuCount, s.Store[0], 4194304, 14680064, 12
	if got := minors(t, s, 3); !same(got, want) {
		t.Errorf("after 3: %v", got)
	}
	want.Clock, want.Count = 4, 11
	if got := minors(t, s, 4); !same(got, want) {
		t.Errorf("after 4: %v", got)
	}
	want.Clock, want.Count, want.Phase, want.Product = 15, 0, api.PuWrite, -2097152*4194304
	if got := minors(t, s, 15); !same(got, want) {
		t.Errorf("after 15: %v", got)
	}
	want.Clock, want.Phase, want.At, want.Done, want.Store[2] = 19, api.PuFetch, 3, 1, 15728640
	if got := minors(t, s, 19); !same(got, want) {
		t.Errorf("after 19: %v", got)
	}
}

// P5.2: the state at the beginning has what the state of layer 4 has, and nothing else.
func TestStart(t *testing.T) {
	r := rand.New(rand.NewPCG(71, 72))
	for range 2000 {
		o := someOrders(r)
		want := api.PuState{Store: o.Store, Tape: o.Tape, Taken: o.Taken, Printed: o.Printed, Clock: o.Time, At: o.At, Done: o.Done, Why: o.Why}
		if s, e := pulse.Start(o); !same(s, want) || e != api.OK {
			t.Fatalf("Start of %v = %v, %d", o, s, e)
		}
	}
}

// P5.2: Start returns the error of order.Check.
func TestStartErrors(t *testing.T) {
	for i, c := range []struct {
		change func(o *api.OrState)
		e      api.Errno
	}{
		{func(o *api.OrState) { o.Store, o.At = o.Store[1:], -1 }, api.ErrLong},
		{func(o *api.OrState) { o.Tape = make([]int, 201) }, api.ErrLong},
		{func(o *api.OrState) { o.Printed = make([]int, 201) }, api.ErrLong},
		{func(o *api.OrState) { o.Store[127], o.Time = 1<<24, 1 }, api.ErrRange},
		{func(o *api.OrState) { o.Tape[2] = -1 }, api.ErrRange},
		{func(o *api.OrState) { o.Printed = []int{-1} }, api.ErrRange},
		{func(o *api.OrState) { o.Taken = 4 }, api.ErrRange},
		{func(o *api.OrState) { o.Done = 1 }, api.ErrRange},
		{func(o *api.OrState) { o.Why, o.Time = 5, 1 }, api.ErrRange},
		{func(o *api.OrState) { o.Time = 1000000001 }, api.ErrRange},
		{func(o *api.OrState) { o.Time = 1 }, api.ErrArg},
		{func(o *api.OrState) { o.At = 8 }, api.ErrArg},
	} {
		o := must[api.OrState](t)(order.Begin([]int{12583560}, []int{3, 4, 5}, 0))
		c.change(&o)
		if s, e := pulse.Start(o); !same(s, api.PuState{}) || e != c.e {
			t.Errorf("%d: Start = %v, %d", i, s, e)
		}
	}
}

// P5.2: the state of layer 4 has the least minor cycle from Clock on with the place of At; it is none within an order, or too late.
func TestOrder(t *testing.T) {
	r := rand.New(rand.NewPCG(73, 74))
	downs, lates := 0, 0
	for range 5000 {
		s := some(r)
		want := api.OrState{Store: s.Store, Tape: s.Tape, Taken: s.Taken, Printed: s.Printed, At: s.At, Time: s.Clock, Done: s.Done, Why: s.Why}
		for want.Time%16 != s.At%16 {
			want.Time++
		}
		e := api.OK
		if s.Phase != api.PuFetch || want.Time > 1000000000 {
			want, e = api.OrState{}, api.ErrDown
			downs++
			if s.Phase == api.PuFetch {
				lates++
			}
		}
		if o, f := pulse.Order(s); !sameOrders(o, want) || f != e {
			t.Fatalf("Order of %v = %v, %d; not %v, %d", s, o, f, want, e)
		}
	}
	if downs < 1000 || downs > 4500 || lates < 10 {
		t.Errorf("%d states have none, %d of them for the time", downs, lates)
	}
}

// P5.2: at the end of the time.
func TestOrderAtLast(t *testing.T) {
	for _, c := range []struct {
		clock, at, time int
		e               api.Errno
	}{
		{1000000000, 0, 1000000000, api.OK},
		{999999985, 0, 1000000000, api.OK},
		{999999985, 15, 999999999, api.OK},
		{999999985, 1, 999999985, api.OK},
		{1000000000, 1, 0, api.ErrDown},
		{1000000000, 127, 0, api.ErrDown},
		{1000000000, 112, 1000000000, api.OK},
		{0, 0, 0, api.OK},
		{1, 0, 16, api.OK},
		{0, 127, 15, api.OK},
	} {
		s := program(t)
		s.Clock, s.At = c.clock, c.at
		if o, e := pulse.Order(s); o.Time != c.time || o.At != c.at && e == api.OK || e != c.e {
			t.Errorf("Order of %d, %d = %v, %d", c.clock, c.at, o, e)
		}
	}
}
