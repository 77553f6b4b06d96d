package order_test

import (
	"math/rand/v2"
	"slices"
	"testing"

	"quicksilver/api"
	"quicksilver/order"
)

// floor divides by 2^23, rounded down.
func floor(n int) int {
	q := n / 8388608
	if n < 0 && q*8388608 != n {
		q--
	}
	return q
}

// modulo returns the word that differs from n by a multiple of 2^24.
func modulo(n int) int { return (n%16777216 + 16777216) % 16777216 }

// withSign is a word, Signed.
func withSign(word int) int { return (word+8388608)%16777216 - 8388608 }

// oneByDefinition does an order as the chapter says it, or ends the run, and returns what is done.
func oneByDefinition(s *api.OrState) (step api.OrStep, done bool) {
	word := s.Store[s.At]
	o := op(word/2097152, word/16384%128, word/128%128, word%128)
	from, to := s.Store[o.From], s.Store[o.To]
	at, until := whenByDefinition(o, s.Time, from >= 8388608)
	switch {
	case s.Why != 0:
		return step, false
	case o.Op == 0:
		s.Why = 1
	case o.Op == 6 && s.Taken >= len(s.Tape):
		s.Why = 2
	case o.Op == 7 && len(s.Printed) >= 200:
		s.Why = 3
	case until > 1000000000:
		s.Why = 4
	}
	if s.Why != 0 {
		return step, false
	}
	switch o.Op {
	case 1:
		s.Store[o.To] = from
	case 2:
		s.Store[o.To] = modulo(from + to)
	case 3:
		s.Store[o.To] = modulo(to - from)
	case 4:
		s.Store[o.To] = modulo(floor(withSign(from) * withSign(to)))
	case 6:
		s.Store[o.To] = s.Tape[s.Taken]
		s.Taken++
	case 7:
		s.Printed = append(s.Printed, from)
	}
	step = api.OrStep{At: s.At, Order: o, Time: s.Time, Until: until}
	s.At, s.Time, s.Done = at, until, s.Done+1
	return step, true
}

// runByDefinition does orders as the chapter says it.
func runByDefinition(s api.OrState, most int) (api.OrState, []api.OrStep) {
	s = cloned(s)
	var steps []api.OrStep
	for range most {
		if step, done := oneByDefinition(&s); done {
			steps = append(steps, step)
		}
	}
	return s, steps
}

// cloned returns a state that shares no memory.
func cloned(s api.OrState) api.OrState {
	s.Store, s.Tape, s.Printed = slices.Clone(s.Store), slices.Clone(s.Tape), slices.Clone(s.Printed)
	return s
}

// someWord returns a word, often one near the ends of words, with a sign or without.
func someWord(r *rand.Rand) int {
	if r.IntN(2) == 0 {
		return r.IntN(1 << 24)
	}
	return modulo([]int{0, 1, 3, 4194304, 8388608}[r.IntN(5)] + between(r, -2, 2))
}

// someWords returns so many words.
func someWords(r *rand.Rand, count int) []int {
	words := make([]int, count)
	for i := range words {
		words[i] = someWord(r)
	}
	return words
}

// someState returns a state with orders and other words in the store, that goes on for some time, mostly.
func someState(r *rand.Rand) api.OrState {
	s := api.OrState{Store: someWords(r, 128), Tape: someWords(r, r.IntN(20)), At: r.IntN(128)}
	orders := between(r, 1, 128)
	for i := range orders {
		o := someOrder(r, r.IntN(20) == 0)
		if r.IntN(10) > 0 {
			o.Next = r.IntN(orders)
		}
		if r.IntN(4) > 0 {
			o.To = 127 - r.IntN(128-orders/2)
		}
		s.Store[i], _ = order.Encode(o)
	}
	if r.IntN(4) > 0 {
		s.At = r.IntN(orders)
	}
	s.Taken = r.IntN(len(s.Tape) + 1)
	s.Time = s.At%16 + 16*r.IntN(100)
	switch r.IntN(10) {
	case 0:
		s.Time = 999999984 - 16*r.IntN(20) + s.At%16
	case 1:
		s.Printed = someWords(r, between(r, 190, 200))
	case 2:
		s.Why = r.IntN(5)
	default:
		s.Printed = someWords(r, r.IntN(10))
	}
	s.Done = r.IntN(s.Time + 1)
	return s
}

// someRun returns a state, and for how many orders it is run.
func someRun(r *rand.Rand) (api.OrState, int) {
	s := someState(r)
	if r.IntN(3) == 0 {
		return s, r.IntN(6)
	}
	return s, r.IntN(150)
}

// P4.5: the chapter's examples.
func TestExamples(t *testing.T) {
	s := begin(t, program(), []int{3, 4, 16777215}, 0)
	after, e := order.Run(s, 100)
	want := cloned(s)
	want.Store[5], want.Store[14] = 16777215, 7
	want.Taken, want.Printed, want.Time, want.At, want.Done, want.Why = 3, []int{7}, 141, 13, 9, api.OrHalted
	if !same(after, want) || e != api.OK {
		t.Errorf("Run = %v, %d", after, e)
	}
	steps, e := order.Trace(s, 3)
	if e != api.OK || !slices.Equal(steps, []api.OrStep{
		{At: 0, Order: op(api.OrRead, 0, 5, 8), Time: 0, Until: 8},
		{At: 8, Order: op(api.OrTest, 5, 12, 10), Time: 8, Until: 26},
		{At: 10, Order: op(api.OrAdd, 5, 14, 0), Time: 26, Until: 48},
	}) {
		t.Errorf("Trace = %v, %d", steps, e)
	}
	s = begin(t, program(), []int{3}, 0)
	after, e = order.Run(s, 100)
	want = cloned(s)
	want.Store[5], want.Store[14] = 3, 3
	want.Taken, want.Time, want.At, want.Done, want.Why = 1, 48, 0, 3, api.OrNoTape
	if !same(after, want) || e != api.OK {
		t.Errorf("Run = %v, %d", after, e)
	}
}

// P4.5: how many orders may be done.
func TestMost(t *testing.T) {
	s := begin(t, wordsOf(t, []api.OrOrder{op(api.OrMove, 1, 2, 0)}), nil, 0)
	for _, most := range beyond(5000) {
		if after, e := order.Run(s, most); !same(after, api.OrState{}) || e != api.ErrRange {
			t.Errorf("Run of %d = %v, %d", most, after, e)
		}
		if steps, e := order.Trace(s, most); len(steps) != 0 || e != api.ErrRange {
			t.Errorf("Trace of %d = %v, %d", most, steps, e)
		}
	}
	for _, most := range []int{0, 1, 4999, 5000} {
		after, e := order.Run(s, most)
		steps, f := order.Trace(s, most)
		if after.Done != most || after.Time != 16*most || after.Why != api.OrGoing || e != api.OK || len(steps) != most || f != api.OK {
			t.Errorf("Run of %d = %v, %d; Trace: %d, %d", most, after, e, len(steps), f)
		}
	}
}

// P4.5: without an order nothing is looked at: a run does not end.
func TestNoOrders(t *testing.T) {
	s := begin(t, nil, nil, 0)
	if after, e := order.Run(s, 0); !same(after, s) || e != api.OK {
		t.Errorf("Run = %v, %d", after, e)
	}
	if after, e := order.Run(s, 1); after.Why != api.OrHalted || after.Done != 0 || e != api.OK {
		t.Errorf("Run = %v, %d", after, e)
	}
}

// P4.5: why a run ends, and which reason comes first; nothing else changes then.
func TestEnds(t *testing.T) {
	for i, c := range []struct {
		o       api.OrOrder
		tape    []int
		printed int
		time    int
		first   int // the word at 1
		why     int
	}{
		{op(api.OrHalt, 9, 9, 9), nil, 0, 0, 0, api.OrHalted},
		{op(api.OrHalt, 9, 9, 9), nil, 200, 1000000000, 0, api.OrHalted},
		{op(api.OrRead, 9, 9, 9), nil, 0, 0, 0, api.OrNoTape},
		{op(api.OrRead, 9, 9, 9), nil, 0, 1000000000, 0, api.OrNoTape},
		{op(api.OrRead, 9, 9, 9), []int{7}, 200, 0, 0, api.OrGoing},
		{op(api.OrRead, 9, 9, 9), []int{7}, 0, 1000000000, 0, api.OrLate},
		{op(api.OrPrint, 9, 9, 9), nil, 200, 0, 0, api.OrFull},
		{op(api.OrPrint, 9, 9, 9), nil, 200, 1000000000, 0, api.OrFull},
		{op(api.OrPrint, 9, 9, 9), nil, 199, 0, 0, api.OrGoing},
		{op(api.OrPrint, 9, 9, 9), nil, 199, 1000000000, 0, api.OrLate},
		{op(api.OrMove, 1, 2, 3), nil, 0, 1000000000, 5, api.OrLate},
		// Just in time, and a minor cycle too late.
		{op(api.OrMove, 1, 2, 16), nil, 0, 999999984, 5, api.OrGoing},
		{op(api.OrMove, 1, 2, 17), nil, 0, 999999984, 5, api.OrLate},
		{op(api.OrMul, 1, 2, 0), nil, 0, 999999968, 5, api.OrGoing},
		{op(api.OrMul, 1, 2, 1), nil, 0, 999999968, 5, api.OrLate},
		// The order that is next decides about the time.
		{op(api.OrTest, 1, 0, 5), nil, 0, 999999984, 8388608, api.OrGoing},
		{op(api.OrTest, 1, 1, 0), nil, 0, 999999984, 8388608, api.OrLate},
		{op(api.OrTest, 1, 1, 0), nil, 0, 999999984, 8388607, api.OrGoing},
		{op(api.OrTest, 1, 0, 1), nil, 0, 999999984, 0, api.OrLate},
	} {
		s := begin(t, wordsOf(t, []api.OrOrder{c.o}, c.first), c.tape, 0)
		s.Time, s.Printed = c.time, make([]int, c.printed)
		want := cloned(s)
		want.Why = c.why
		after, e := order.Run(s, 1)
		if e != api.OK || after.Why != c.why || c.why != api.OrGoing && !same(after, want) || c.why == api.OrGoing && after.Done != 1 {
			t.Errorf("%d: Run = %v, %d", i, after, e)
		}
		if steps, e := order.Trace(s, 1); len(steps) != after.Done || e != api.OK {
			t.Errorf("%d: Trace = %v, %d", i, steps, e)
		}
	}
}

// P4.5: what orders do to words; the order is at 0, its words are at 1 and 2, and 3 is OrHalt.
func TestWork(t *testing.T) {
	for _, c := range []struct{ op, from, to, want int }{
		{api.OrMove, 16777215, 5, 16777215},
		{api.OrAdd, 5, 16777214, 3},
		{api.OrAdd, 16777215, 16777215, 16777214},
		{api.OrAdd, 8388608, 8388608, 0},
		{api.OrSub, 5, 3, 16777214},
		{api.OrSub, 3, 5, 2},
		{api.OrSub, 16777215, 0, 1},
		{api.OrSub, 1, 0, 16777215},
		{api.OrMul, 4194304, 14680064, 15728640},
		{api.OrMul, 1, 16777215, 16777215},
		{api.OrMul, 8388608, 8388608, 8388608},
		{api.OrMul, 8388607, 8388607, 8388606},
		{api.OrMul, 8388608, 8388607, 8388609},
		{api.OrMul, 8388608, 1, 16777215},
		{api.OrMul, 8388608, 16777215, 1},
		{api.OrMul, 16777215, 16777215, 0},
		{api.OrMul, 3, 8388607, 2},
		{api.OrMul, 0, 8388608, 0},
		{api.OrTest, 8388608, 5, 5},
		{api.OrRead, 8, 9, 77},
		{api.OrPrint, 8388608, 9, 9},
	} {
		s := begin(t, wordsOf(t, []api.OrOrder{op(c.op, 1, 2, 3)}, c.from, c.to), []int{77}, 0)
		after, e := order.Run(s, 1)
		if e != api.OK || after.Done != 1 || after.Store[2] != c.want || after.Store[1] != c.from {
			t.Errorf("%d of %d and %d = %d, %d; %d", c.op, c.from, c.to, after.Store[1], after.Store[2], e)
		}
		if printed := c.op == api.OrPrint; printed != slices.Equal(after.Printed, []int{c.from}) || !printed && len(after.Printed) > 0 {
			t.Errorf("%d prints %v", c.op, after.Printed)
		}
		if taken := c.op == api.OrRead; taken != (after.Taken == 1) {
			t.Errorf("%d takes %d", c.op, after.Taken)
		}
	}
}

// P4.5: From and To can be the same word, and orders change themselves and others.
func TestSameWords(t *testing.T) {
	for i, c := range []struct {
		orders []api.OrOrder
		more   []int
		most   int
		at     int // which word is looked at
		want   int
	}{
		{[]api.OrOrder{op(api.OrAdd, 1, 1, 2)}, []int{8388609}, 1, 1, 2},
		{[]api.OrOrder{op(api.OrSub, 1, 1, 2)}, []int{77}, 1, 1, 0},
		{[]api.OrOrder{op(api.OrMul, 1, 1, 2)}, []int{12582912}, 1, 1, 2097152},
		{[]api.OrOrder{op(api.OrMove, 1, 1, 2)}, []int{77}, 1, 1, 77},
		// An order that adds itself to itself.
		{[]api.OrOrder{op(api.OrAdd, 0, 0, 1)}, nil, 1, 0, 8388610},
		// An order that counts its own To on.
		{[]api.OrOrder{op(api.OrAdd, 1, 0, 0)}, []int{128}, 1, 0, 2<<21 + 1<<14 + 1<<7},
		{[]api.OrOrder{op(api.OrAdd, 1, 0, 0)}, []int{128}, 2, 1, 256},
		// An order that is moved onto the next one.
		{[]api.OrOrder{op(api.OrMove, 2, 1, 1)}, []int{0, 7<<21 + 2<<14 + 3}, 2, 1, 7<<21 + 2<<14 + 3},
	} {
		s := begin(t, wordsOf(t, c.orders, c.more...), nil, 0)
		after, e := order.Run(s, c.most)
		if e != api.OK || after.Done != c.most || after.Store[c.at] != c.want {
			t.Errorf("%d: Run = %v, %d", i, after, e)
		}
	}
}

// P4.5: any states, against the chapter's definitions.
func TestRunByDefinition(t *testing.T) {
	r := rand.New(rand.NewPCG(43, 44))
	whys, ops := map[int]int{}, map[int]int{}
	for range 6000 {
		s, most := someRun(r)
		want, steps := runByDefinition(s, most)
		after, e := order.Run(s, most)
		if !same(after, want) || e != api.OK {
			t.Fatalf("Run of %v, %d = %v, %d; not %v", s, most, after, e, want)
		}
		if l, e := order.Trace(s, most); !slices.Equal(l, steps) || e != api.OK {
			t.Fatalf("Trace of %v, %d = %v, %d; not %v", s, most, l, e, steps)
		}
		if part, at, e := order.Check(after); part != 0 || at != 0 || e != api.OK {
			t.Fatalf("Check of %v = %d, %d, %d", after, part, at, e)
		}
		whys[after.Why]++
		for _, step := range steps {
			ops[step.Order.Op]++
		}
	}
	for why := api.OrGoing; why <= api.OrLate; why++ {
		if whys[why] < 100 {
			t.Errorf("only %d runs end with %d", whys[why], why)
		}
	}
	for what := api.OrMove; what <= api.OrPrint; what++ {
		if ops[what] < 1000 {
			t.Errorf("only %d orders are %d", ops[what], what)
		}
	}
}
