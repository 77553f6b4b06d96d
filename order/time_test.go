package order_test

import (
	"math/rand/v2"
	"testing"

	"quicksilver/api"
	"quicksilver/order"
)

// comesBy counts minor cycles until the word at an address comes by after one of them.
func comesBy(time, address int) int {
	for time++; time%16 != address%16; time++ {
	}
	return time
}

// whenByDefinition goes through what an order does, thing by thing.
func whenByDefinition(o api.OrOrder, time int, negative bool) (at, until int) {
	if o.Op != api.OrRead {
		time = comesBy(time, o.From)
	}
	if o.Op != api.OrTest && o.Op != api.OrPrint {
		time = comesBy(time, o.To)
	}
	if o.Op == api.OrMul {
		time = comesBy(time+12, o.To)
	}
	at = o.Next
	if o.Op == api.OrTest && negative {
		at = o.To
	}
	return at, comesBy(time, at)
}

// P4.2: the chapter's examples, words at the place of the order itself, and products that have just come or gone by.
func TestWhen(t *testing.T) {
	for _, c := range []struct {
		o         api.OrOrder
		time      int
		negative  bool
		at, until int
	}{
		{op(api.OrMul, 1, 2, 3), 0, false, 3, 19},
		{op(api.OrRead, 0, 5, 8), 0, false, 8, 8},
		{op(api.OrTest, 5, 12, 10), 8, false, 10, 26},
		{op(api.OrTest, 5, 12, 10), 8, true, 12, 28},
		{op(api.OrAdd, 5, 14, 0), 26, false, 0, 48},
		{op(api.OrPrint, 14, 0, 13), 124, true, 13, 141},
		{op(api.OrMove, 1, 2, 3), 0, true, 3, 3},
		{op(api.OrMove, 0, 0, 0), 0, false, 0, 48},
		{op(api.OrSub, 113, 17, 33), 0, false, 33, 33},
		{op(api.OrRead, 9, 0, 0), 16, false, 0, 48},
		{op(api.OrMul, 0, 0, 0), 0, false, 0, 64},
		{op(api.OrMul, 1, 2, 2), 0, false, 2, 34},
		{op(api.OrMul, 15, 3, 4), 0, false, 4, 36},
		{op(api.OrMove, 1, 2, 3), 1000000000, false, 3, 1000000003},
		{op(api.OrMul, 0, 0, 0), 1000000000, false, 0, 1000000064},
		{op(api.OrTest, 3, 1, 2), 7, false, 2, 34}, // at whatever address
	} {
		if at, until, e := order.When(c.o, c.time, c.negative); at != c.at || until != c.until || e != api.OK {
			t.Errorf("When of %v, %d, %v = %d, %d, %d", c.o, c.time, c.negative, at, until, e)
		}
	}
}

// P4.2: the errors of When, and which one comes first.
func TestWhenErrors(t *testing.T) {
	type call struct {
		o    api.OrOrder
		time int
		e    api.Errno
	}
	calls := []call{
		{op(api.OrHalt, 1, 2, 3), 0, api.ErrArg},
		{op(api.OrHalt, 0, 0, 0), 1000000000, api.ErrArg},
		{op(api.OrHalt, 0, 0, 0), -1, api.ErrRange},
		{op(api.OrHalt, 0, 0, 128), 0, api.ErrRange},
	}
	for _, time := range beyond(1000000000) {
		calls = append(calls, call{op(api.OrMove, 1, 2, 3), time, api.ErrRange})
	}
	for _, o := range notOrders() {
		calls = append(calls, call{o, 0, api.ErrRange})
	}
	for _, c := range calls {
		for _, negative := range []bool{false, true} {
			if at, until, e := order.When(c.o, c.time, negative); at != 0 || until != 0 || e != c.e {
				t.Errorf("When of %v, %d = %d, %d, %d", c.o, c.time, at, until, e)
			}
		}
	}
}

// P4.2: all places of all addresses and of the time.
func TestWhenByDefinition(t *testing.T) {
	for places := range 7 * 2 * 1 << 16 {
		o := op(1+places>>17, places&15, places>>4&15, places>>8&15)
		time, negative := places>>12&15, places>>16&1 == 1
		wantAt, wantUntil := whenByDefinition(o, time, negative)
		if at, until, e := order.When(o, time, negative); at != wantAt || until != wantUntil || e != api.OK {
			t.Fatalf("When of %v, %d, %v = %d, %d, %d; not %d, %d", o, time, negative, at, until, e, wantAt, wantUntil)
		}
	}
}

// P4.9: how long an order takes at least and at most: both are met, and nothing is beyond them.
func TestTimes(t *testing.T) {
	bounds := map[int]api.Span{
		api.OrMove:  {Lo: 3, Hi: 48},
		api.OrAdd:   {Lo: 3, Hi: 48},
		api.OrSub:   {Lo: 3, Hi: 48},
		api.OrMul:   {Lo: 16, Hi: 76},
		api.OrTest:  {Lo: 2, Hi: 32},
		api.OrRead:  {Lo: 2, Hi: 32},
		api.OrPrint: {Lo: 2, Hi: 32},
	}
	for what, bound := range bounds {
		met := api.Span{Lo: 1000}
		for places := range 1 << 16 {
			o, time := op(what, places&15, places>>4&15, places>>8&15), places>>12&15
			at, until, _ := order.When(o, time, false)
			met = api.Span{Lo: min(met.Lo, until-time), Hi: max(met.Hi, until-time)}
			if until%16 != at%16 {
				t.Fatalf("When of %v, %d = %d, %d", o, time, at, until)
			}
		}
		// A product waits for the end of the multiplier, so that not all of its times are met.
		if what != api.OrMul && met != bound || met.Lo < bound.Lo || met.Hi > bound.Hi {
			t.Errorf("%d takes %v", what, met)
		}
	}
}

// P4.9: by whole lines addresses change no times.
func TestWholeLines(t *testing.T) {
	r := rand.New(rand.NewPCG(41, 42))
	for range 20000 {
		o, time, negative := someOrder(r, false), r.IntN(1000), r.IntN(2) == 0
		at, until, _ := order.When(o, time, negative)
		moved := op(o.Op, (o.From+16*r.IntN(8))%128, (o.To+16*r.IntN(8))%128, (o.Next+16*r.IntN(8))%128)
		at2, until2, _ := order.When(moved, time, negative)
		if until != until2 || at%16 != at2%16 {
			t.Fatalf("When of %v, %d = %d, %d; of %v %d, %d", o, time, at, until, moved, at2, until2)
		}
	}
}
