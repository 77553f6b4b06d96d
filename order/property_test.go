package order_test

import (
	"math/rand/v2"
	"slices"
	"testing"

	"quicksilver/api"
	"quicksilver/order"
)

// run is Run of what has no error.
func run(t *testing.T, s api.OrState, most int) api.OrState {
	t.Helper()
	after, e := order.Run(s, most)
	if e != api.OK {
		t.Fatalf("Run of %v, %d: %d", s, most, e)
	}
	return after
}

// trace is Trace of what has no error.
func trace(t *testing.T, s api.OrState, most int) []api.OrStep {
	t.Helper()
	steps, e := order.Trace(s, most)
	if e != api.OK {
		t.Fatalf("Trace of %v, %d: %d", s, most, e)
	}
	return steps
}

// P4.7: a run can be cut anywhere, and each step begins where, and when, the one before ends.
func TestCutAnywhere(t *testing.T) {
	r := rand.New(rand.NewPCG(45, 46))
	for range 1500 {
		s, most := someRun(r)
		whole, steps := run(t, s, most), trace(t, s, most)
		some := r.IntN(most + 1)
		half := run(t, s, some)
		if rest := run(t, half, most-some); !same(rest, whole) {
			t.Fatalf("Run of %v, %d, cut after %d, is %v, not %v", s, most, some, rest, whole)
		}
		if cut := append(trace(t, s, some), trace(t, half, most-some)...); !slices.Equal(cut, steps) {
			t.Fatalf("Trace of %v, %d, cut after %d, is %v, not %v", s, most, some, cut, steps)
		}
		if len(steps) != whole.Done-s.Done {
			t.Fatalf("Trace of %v, %d has %d steps, not %d", s, most, len(steps), whole.Done-s.Done)
		}
		at, time := s.At, s.Time
		for i, step := range steps {
			next, until, e := order.When(step.Order, step.Time, run(t, s, i).Store[step.Order.From] >= 8388608)
			if step.At != at || step.Time != time || step.Until != until || e != api.OK {
				t.Fatalf("Trace of %v, %d: step %d = %v", s, most, i, step)
			}
			at, time = next, until
		}
		if at != whole.At || time != whole.Time {
			t.Fatalf("Trace of %v, %d ends at %d, %d", s, most, at, time)
		}
	}
}

// P4.8: what has ended stays as it is; what has not has done as many orders.
func TestEnded(t *testing.T) {
	r := rand.New(rand.NewPCG(47, 48))
	ended := 0
	for range 3000 {
		s, most := someRun(r)
		after := run(t, s, most)
		if after.Why == api.OrGoing {
			if after.Done != s.Done+most {
				t.Fatalf("Run of %v, %d = %v", s, most, after)
			}
			continue
		}
		ended++
		more := r.IntN(5001)
		if again := run(t, after, more); !same(again, after) {
			t.Fatalf("%v becomes %v", after, again)
		}
		if steps := trace(t, after, more); len(steps) != 0 {
			t.Fatalf("Trace of %v = %v", after, steps)
		}
	}
	if ended < 500 {
		t.Errorf("only %d runs ended", ended)
	}
}

// P4.8: a state that has ended stays so, whatever its order is.
func TestEndedThatCouldGoOn(t *testing.T) {
	for why := api.OrHalted; why <= api.OrLate; why++ {
		s := begin(t, program(), []int{3, 4, 16777215}, 0)
		s.Why = why
		if after := run(t, s, 100); !same(after, s) {
			t.Errorf("%v becomes %v", s, after)
		}
	}
}

// P4.9: the times of the orders that are done.
func TestTimesOfSteps(t *testing.T) {
	r := rand.New(rand.NewPCG(49, 50))
	for range 1000 {
		s, most := someRun(r)
		for _, step := range trace(t, s, most) {
			least, greatest := 2, 32
			switch step.Order.Op {
			case api.OrMove, api.OrAdd, api.OrSub:
				least, greatest = 3, 48
			case api.OrMul:
				least, greatest = 16, 76
			}
			if takes := step.Until - step.Time; takes < least || takes > greatest {
				t.Fatalf("%v takes %d", step, takes)
			}
		}
	}
}

// P4.10: an order changes at most the word at To.
func TestOneWord(t *testing.T) {
	r := rand.New(rand.NewPCG(51, 52))
	for range 20000 {
		s := someState(r)
		after, steps := run(t, s, 1), trace(t, s, 1)
		for i := range s.Store {
			if s.Store[i] == after.Store[i] {
				continue
			}
			if len(steps) == 0 || i != steps[0].Order.To || steps[0].Order.Op == api.OrTest || steps[0].Order.Op == api.OrPrint {
				t.Fatalf("%v changes the word %d of %v", steps, i, s)
			}
		}
	}
}

// P4.10: OrAdd and OrSub of the same two words, one after the other, change nothing.
func TestAddedAndTakenAway(t *testing.T) {
	r := rand.New(rand.NewPCG(53, 54))
	for range 3000 {
		s := begin(t, someWords(r, 128), nil, 0)
		from, to := between(r, 2, 127), between(r, 2, 127)
		if from == to {
			continue
		}
		first, second := api.OrAdd, api.OrSub
		if r.IntN(2) == 0 {
			first, second = second, first
		}
		copy(s.Store, wordsOf(t, []api.OrOrder{op(first, from, to, 1), op(second, from, to, r.IntN(128))}))
		between := run(t, s, 1)
		if after := run(t, s, 2); after.Done != 2 || !slices.Equal(after.Store, s.Store) || (s.Store[from] != 0) == slices.Equal(between.Store, s.Store) {
			t.Fatalf("%v becomes %v", s, after)
		}
	}
}

// P4.11: a product is at most the exact one, and differs by less than a unit.
func TestProducts(t *testing.T) {
	r := rand.New(rand.NewPCG(55, 56))
	for range 30000 {
		a, b := someWord(r), someWord(r)
		s := begin(t, wordsOf(t, []api.OrOrder{op(api.OrMul, 1, 2, 3)}, a, b), nil, 0)
		product := run(t, s, 1).Store[2]
		if a == 8388608 && b == 8388608 {
			if product != 8388608 {
				t.Fatalf("the product of %d and %d is %d", a, b, product)
			}
			continue
		}
		x, _ := order.Signed(a)
		y, _ := order.Signed(b)
		p, e := order.Signed(product)
		if off := x*y - p*8388608; e != api.OK || off < 0 || off >= 8388608 {
			t.Fatalf("the product of %d and %d is %d", a, b, product)
		}
	}
}

// P4.12: words are taken in order, and what has been printed stays.
func TestTapeAndTeleprinter(t *testing.T) {
	r := rand.New(rand.NewPCG(57, 58))
	taken := 0
	for range 3000 {
		s, most := someRun(r)
		after, steps := run(t, s, most), trace(t, s, most)
		if !slices.Equal(after.Tape, s.Tape) || len(after.Printed) < len(s.Printed) || !slices.Equal(after.Printed[:len(s.Printed)], s.Printed) {
			t.Fatalf("Run of %v, %d = %v", s, most, after)
		}
		reads, prints := 0, 0
		for i, step := range steps {
			switch step.Order.Op {
			case api.OrRead:
				if word := run(t, s, i+1).Store[step.Order.To]; word != s.Tape[s.Taken+reads] {
					t.Fatalf("%v of %v reads %d", step, s, word)
				}
				reads++
			case api.OrPrint:
				if word := run(t, s, i).Store[step.Order.From]; word != after.Printed[len(s.Printed)+prints] {
					t.Fatalf("%v of %v does not print %d", step, s, word)
				}
				prints++
			}
		}
		if after.Taken != s.Taken+reads || len(after.Printed) != len(s.Printed)+prints {
			t.Fatalf("Run of %v, %d = %v", s, most, after)
		}
		taken += reads
	}
	if taken < 1000 {
		t.Errorf("only %d words were taken", taken)
	}
}

// P4.12: later by whole major cycles, all is the same, and as much later, unless the time is over.
func TestLaterByMajorCycles(t *testing.T) {
	r := rand.New(rand.NewPCG(59, 60))
	for range 3000 {
		s, most := someRun(r)
		later := cloned(s)
		shift := 16 * r.IntN(1000)
		later.Time += shift
		after := run(t, s, most)
		if later.Time > api.MaxOrTime || after.Time+100+shift > api.MaxOrTime {
			continue
		}
		got := run(t, later, most)
		got.Time -= shift
		if !same(got, after) {
			t.Fatalf("Run of %v, %d, later by %d, is %v, not %v", s, most, shift, got, after)
		}
	}
}
