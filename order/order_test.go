package order_test

import (
	"math"
	"math/rand/v2"
	"slices"
	"testing"

	"quicksilver/api"
	"quicksilver/order"
)

// op is an order.
func op(what, from, to, next int) api.OrOrder {
	return api.OrOrder{Op: what, From: from, To: to, Next: next}
}

// between returns a number from lo to hi.
func between(r *rand.Rand, lo, hi int) int { return lo + r.IntN(hi-lo+1) }

// someOrder returns any order, with OrHalt if it may be.
func someOrder(r *rand.Rand, halts bool) api.OrOrder {
	least := api.OrMove
	if halts {
		least = api.OrHalt
	}
	return op(between(r, least, api.OrPrint), r.IntN(128), r.IntN(128), r.IntN(128))
}

// program is P of the chapter's examples.
func program() []int { return []int{0: 12583560, 8: 10569226, 10: 4278016, 12: 14909453} }

// begin returns the state in which a run begins.
func begin(t *testing.T, store, tape []int, start int) api.OrState {
	t.Helper()
	s, e := order.Begin(store, tape, start)
	if e != api.OK {
		t.Fatalf("Begin: %d", e)
	}
	return s
}

// wordsOf returns orders, as they are written, and other words behind them.
func wordsOf(t *testing.T, orders []api.OrOrder, more ...int) []int {
	t.Helper()
	var words []int
	for _, o := range orders {
		w, e := order.Encode(o)
		if e != api.OK {
			t.Fatalf("Encode of %v: %d", o, e)
		}
		words = append(words, w)
	}
	return append(words, more...)
}

// beyond returns numbers that are not from 0 to a greatest one.
func beyond(greatest int) []int {
	return []int{-1, greatest + 1, -1 << 40, 1 << 40, math.MinInt, math.MaxInt}
}

// P4.1: the words of the chapter's examples, and the ends of all numbers.
func TestEncodeAndDecode(t *testing.T) {
	for _, c := range []struct {
		o    api.OrOrder
		word int
	}{
		{op(api.OrRead, 0, 5, 8), 12583560},
		{op(api.OrTest, 5, 12, 10), 10569226},
		{op(api.OrAdd, 5, 14, 0), 4278016},
		{op(api.OrPrint, 14, 0, 13), 14909453},
		{op(0, 0, 0, 0), 0},
		{op(7, 0, 0, 0), 7 << 21},
		{op(0, 127, 0, 0), 127 << 14},
		{op(0, 0, 127, 0), 127 << 7},
		{op(0, 0, 0, 127), 127},
		{op(7, 127, 127, 127), 1<<24 - 1},
		{op(4, 64, 1, 32), 4<<21 + 64<<14 + 1<<7 + 32},
	} {
		if w, e := order.Encode(c.o); w != c.word || e != api.OK {
			t.Errorf("Encode of %v = %d, %d", c.o, w, e)
		}
		if o, e := order.Decode(c.word); o != c.o || e != api.OK {
			t.Errorf("Decode of %d = %v, %d", c.word, o, e)
		}
	}
}

// notOrders returns orders of which one number is not as stated.
func notOrders() []api.OrOrder {
	var l []api.OrOrder
	for _, n := range beyond(7) {
		l = append(l, op(n, 1, 2, 3))
	}
	for _, n := range beyond(127) {
		l = append(l, op(1, n, 2, 3), op(1, 1, n, 3), op(1, 1, 2, n), op(0, n, 2, 3))
	}
	return l
}

// P4.1: what is no order has no word.
func TestEncodeErrors(t *testing.T) {
	for _, o := range notOrders() {
		if w, e := order.Encode(o); w != 0 || e != api.ErrRange {
			t.Errorf("Encode of %v = %d, %d", o, w, e)
		}
	}
}

// P4.1: what is no word is no order, and has no sign.
func TestDecodeAndSignedErrors(t *testing.T) {
	for _, n := range beyond(1<<24 - 1) {
		if o, e := order.Decode(n); o != op(0, 0, 0, 0) || e != api.ErrRange {
			t.Errorf("Decode of %d = %v, %d", n, o, e)
		}
		if s, e := order.Signed(n); s != 0 || e != api.ErrRange {
			t.Errorf("Signed of %d = %d, %d", n, s, e)
		}
	}
}

// P4.1: words with a sign.
func TestSigned(t *testing.T) {
	for word, want := range map[int]int{0: 0, 1: 1, 8388606: 8388606, 8388607: 8388607, 8388608: -8388608, 8388609: -8388607, 14680064: -2097152, 16777214: -2, 16777215: -1} {
		if n, e := order.Signed(word); n != want || e != api.OK {
			t.Errorf("Signed of %d = %d, %d", word, n, e)
		}
	}
}

// P4.6: all words, there and back, and the same for the orders that they are.
func TestWordsThereAndBack(t *testing.T) {
	for word := range 1 << 24 {
		o, e := order.Decode(word)
		back, f := order.Encode(o)
		if e != api.OK || f != api.OK || back != word {
			t.Fatalf("Decode of %d = %v, %d; Encode = %d, %d", word, o, e, back, f)
		}
		if again, _ := order.Decode(back); again != o {
			t.Fatalf("%v, and then %v", o, again)
		}
		if word != o.Op*2097152+o.From*16384+o.To*128+o.Next {
			t.Fatalf("Decode of %d = %v", word, o)
		}
	}
}

// P4.3: the first error of a state, with its part and index.
func TestCheck(t *testing.T) {
	for i, c := range []struct {
		change   func(s *api.OrState)
		part, at int
		e        api.Errno
	}{
		{func(s *api.OrState) {}, 0, 0, api.OK},
		// As many words as stated, and no more than there may be.
		{func(s *api.OrState) { s.Store = nil }, 1, 0, api.ErrLong},
		{func(s *api.OrState) { s.Store = s.Store[:127] }, 1, 0, api.ErrLong},
		{func(s *api.OrState) { s.Store = make([]int, 129) }, 1, 0, api.ErrLong},
		{func(s *api.OrState) { s.Tape = make([]int, 201) }, 1, 0, api.ErrLong},
		{func(s *api.OrState) { s.Tape = make([]int, 200) }, 0, 0, api.OK},
		{func(s *api.OrState) { s.Printed = make([]int, 201) }, 1, 0, api.ErrLong},
		{func(s *api.OrState) { s.Printed = make([]int, 200) }, 0, 0, api.OK},
		{func(s *api.OrState) { s.Tape, s.Taken = nil, 0 }, 0, 0, api.OK},
		// Words.
		{func(s *api.OrState) { s.Store[0] = -1 }, 2, 0, api.ErrRange},
		{func(s *api.OrState) { s.Store[9], s.Store[127] = 1<<24, -1 }, 2, 9, api.ErrRange},
		{func(s *api.OrState) { s.Store[127] = math.MaxInt }, 2, 127, api.ErrRange},
		{func(s *api.OrState) { s.Store[127] = 1<<24 - 1 }, 0, 0, api.OK},
		{func(s *api.OrState) { s.Tape[1], s.Tape[2] = 1<<24, -1 }, 3, 1, api.ErrRange},
		{func(s *api.OrState) { s.Tape[2] = math.MinInt }, 3, 2, api.ErrRange},
		{func(s *api.OrState) { s.Printed = []int{0, 1<<24 - 1, 1 << 24} }, 4, 2, api.ErrRange},
		{func(s *api.OrState) { s.Printed = []int{-1} }, 4, 0, api.ErrRange},
		// Other numbers.
		{func(s *api.OrState) { s.Taken = -1 }, 5, 0, api.ErrRange},
		{func(s *api.OrState) { s.Taken = 4 }, 5, 0, api.ErrRange},
		{func(s *api.OrState) { s.Taken = 3 }, 0, 0, api.OK},
		{func(s *api.OrState) { s.Time = -16 }, 5, 0, api.ErrRange},
		{func(s *api.OrState) { s.Time = 1000000016 }, 5, 0, api.ErrRange},
		{func(s *api.OrState) { s.Time = 1000000000 }, 0, 0, api.OK},
		{func(s *api.OrState) { s.At = -16 }, 5, 0, api.ErrRange},
		{func(s *api.OrState) { s.At = 128 }, 5, 0, api.ErrRange},
		{func(s *api.OrState) { s.At = 112 }, 0, 0, api.OK},
		{func(s *api.OrState) { s.Done = -1 }, 5, 0, api.ErrRange},
		{func(s *api.OrState) { s.Done = 1 }, 5, 0, api.ErrRange},
		{func(s *api.OrState) { s.Time, s.Done = 32, 33 }, 5, 0, api.ErrRange},
		{func(s *api.OrState) { s.Time, s.Done = 32, 32 }, 0, 0, api.OK},
		{func(s *api.OrState) { s.Why = -1 }, 5, 0, api.ErrRange},
		{func(s *api.OrState) { s.Why = 5 }, 5, 0, api.ErrRange},
		{func(s *api.OrState) { s.Why = 4 }, 0, 0, api.OK},
		// Places.
		{func(s *api.OrState) { s.Time = 1 }, 6, 0, api.ErrArg},
		{func(s *api.OrState) { s.At = 127 }, 6, 0, api.ErrArg},
		{func(s *api.OrState) { s.Time, s.At = 999999999, 127 }, 0, 0, api.OK},
		// All of one part comes before the next one.
		{func(s *api.OrState) { s.Printed, s.Store[3] = make([]int, 201), -1 }, 1, 0, api.ErrLong},
		{func(s *api.OrState) { s.Store[127], s.Tape[0] = -1, -1 }, 2, 127, api.ErrRange},
		{func(s *api.OrState) { s.Tape[2], s.Printed = -1, []int{-1} }, 3, 2, api.ErrRange},
		{func(s *api.OrState) { s.Printed, s.Taken = []int{-1}, -1 }, 4, 0, api.ErrRange},
		{func(s *api.OrState) { s.Time, s.Why = 1, 5 }, 5, 0, api.ErrRange},
	} {
		s := begin(t, program(), []int{3, 4, 16777215}, 0)
		c.change(&s)
		if part, at, e := order.Check(s); part != c.part || at != c.at || e != c.e {
			t.Errorf("%d: Check = %d, %d, %d", i, part, at, e)
		}
		// P4.5: the error of Check comes first.
		want := c.e
		if want == api.OK {
			want = api.ErrRange
		}
		if after, e := order.Run(s, -1); !same(after, api.OrState{}) || e != want {
			t.Errorf("%d: Run = %v, %d", i, after, e)
		}
		if steps, e := order.Trace(s, 5001); len(steps) != 0 || e != want {
			t.Errorf("%d: Trace = %v, %d", i, steps, e)
		}
	}
}

// same says whether two states are equal.
func same(a, b api.OrState) bool {
	return slices.Equal(a.Store, b.Store) && slices.Equal(a.Tape, b.Tape) && slices.Equal(a.Printed, b.Printed) &&
		a.Taken == b.Taken && a.Time == b.Time && a.At == b.At && a.Done == b.Done && a.Why == b.Why
}

// P4.4: states at the beginning.
func TestBegin(t *testing.T) {
	for _, start := range []int{0, 1, 15, 16, 100, 127} {
		store, tape := []int{5, 16777215, 0, 7}, []int{16777215, 1}
		s, e := order.Begin(store, tape, start)
		want := api.OrState{Store: append(slices.Clone(store), make([]int, 124)...), Tape: tape, Time: start % 16, At: start}
		if !same(s, want) || e != api.OK {
			t.Errorf("Begin at %d = %v, %d", start, s, e)
		}
		if part, at, e := order.Check(s); part != 0 || at != 0 || e != api.OK {
			t.Errorf("Check = %d, %d, %d", part, at, e)
		}
	}
	full, long := slices.Repeat([]int{16777215}, 128), slices.Repeat([]int{9}, 200)
	if s, e := order.Begin(full, long, 0); !same(s, api.OrState{Store: full, Tape: long}) || e != api.OK {
		t.Errorf("Begin = %v, %d", s, e)
	}
	if s, e := order.Begin(nil, nil, 0); !same(s, api.OrState{Store: make([]int, 128)}) || e != api.OK {
		t.Errorf("Begin = %v, %d", s, e)
	}
}

// P4.4: the errors of Begin, and which one comes first.
func TestBeginErrors(t *testing.T) {
	for i, c := range []struct {
		store, tape []int
		start       int
		e           api.Errno
	}{
		{make([]int, 129), nil, 0, api.ErrLong},
		{nil, make([]int, 201), 0, api.ErrLong},
		{slices.Repeat([]int{-1}, 129), nil, 0, api.ErrLong},
		{[]int{-1}, make([]int, 201), -1, api.ErrLong},
		{[]int{0, 0, -1}, nil, 0, api.ErrRange},
		{[]int{1 << 24}, nil, 0, api.ErrRange},
		{nil, []int{-1}, 0, api.ErrRange},
		{nil, []int{0, 1 << 24}, 0, api.ErrRange},
		{nil, nil, -1, api.ErrRange},
		{nil, nil, 128, api.ErrRange},
		{nil, nil, math.MinInt, api.ErrRange},
		{nil, nil, math.MaxInt, api.ErrRange},
	} {
		if s, e := order.Begin(c.store, c.tape, c.start); !same(s, api.OrState{}) || e != c.e {
			t.Errorf("%d: Begin = %v, %d", i, s, e)
		}
	}
}
