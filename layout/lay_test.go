package layout_test

import (
	"math"
	"math/rand/v2"
	"slices"
	"testing"

	"quicksilver/api"
	"quicksilver/layout"
	"quicksilver/order"
)

// someWords returns words of all sizes.
func someWords(r *rand.Rand, many int) []int {
	var l []int
	for range many {
		l = append(l, r.IntN(1<<24)>>(r.IntN(24)))
	}
	return l
}

// programByDefinition is the program of a layout, with orders packed by hand.
func programByDefinition(x api.LaTask, l, words []int) []int {
	store := make([]int, 128)
	for i, o := range x.Orders {
		word := o.Op << 21
		if readsAt(o.Op) {
			word += l[len(x.Orders)+o.From] << 14
		}
		if writesAt(o.Op) {
			word += l[len(x.Orders)+o.To] << 7
		}
		if o.Op == api.OrTest {
			word += l[o.To] << 7
		}
		if goesOn(o.Op) {
			word += l[o.Next]
		}
		store[l[i]] = word
	}
	for i, word := range words {
		store[l[len(x.Orders)+i]] = word
	}
	return store
}

// lay is Lay of what has no error.
func lay(t *testing.T, x api.LaTask, l, words []int) []int {
	t.Helper()
	return must[[]int](t)(layout.Lay(x, l, words))
}

// P6.5: the chapter's example.
func TestLay(t *testing.T) {
	want := make([]int, 128)
	copy(want, []int{4210947, 5, 7, 10518531})
	if s := lay(t, example(), []int{0, 3, 1, 2}, []int{5, 7}); !slices.Equal(s, want) {
		t.Errorf("Lay = %v", s)
	}
}

// P6.5: tasks made at random, by definition: what is not looked at is 0, also if it is anything.
func TestLayByDefinition(t *testing.T) {
	r := rand.New(rand.NewPCG(31, 6))
	for range 2000 {
		x := someTask(r)
		l, words := someLayout(r, x), someWords(r, x.Data)
		if s, want := lay(t, x, l, words), programByDefinition(x, l, words); !slices.Equal(s, want) {
			t.Fatalf("Lay of %v, %v, %v = %v, not %v", x, l, words, s, want)
		}
	}
}

// P6.5: the errors of words.
func TestLayErrors(t *testing.T) {
	for i, c := range []struct {
		words []int
		e     api.Errno
	}{
		{[]int{0, 1<<24 - 1}, api.OK},
		{nil, api.ErrLong}, {[]int{1}, api.ErrLong}, {[]int{1, 2, 3}, api.ErrLong}, {[]int{-1, 2, 3}, api.ErrLong},
		{[]int{-1, 0}, api.ErrRange}, {[]int{0, 1 << 24}, api.ErrRange}, {[]int{0, math.MaxInt}, api.ErrRange}, {[]int{math.MinInt, 0}, api.ErrRange},
	} {
		s, e := layout.Lay(example(), []int{0, 3, 1, 2}, c.words)
		if e != c.e || e != api.OK && len(s) != 0 {
			t.Errorf("%d: Lay = %v, %d", i, s, e)
		}
	}
	if s, e := layout.Lay(api.LaTask{Orders: make([]api.LaOrder, 1), Lines: 1}, []int{9}, nil); len(s) != 128 || slices.Max(s) != 0 || e != api.OK {
		t.Errorf("Lay = %v, %d", s, e)
	}
}

// begin returns the state in which a program begins with an order.
func begin(t *testing.T, x api.LaTask, l, words, tape []int, first int) api.OrState {
	t.Helper()
	return must[api.OrState](t)(order.Begin(lay(t, x, l, words), tape, l[first]))
}

// P6.8: programs of two layouts print the same, order by order, and have the same words.
func TestWhatIsPrinted(t *testing.T) {
	r := rand.New(rand.NewPCG(32, 6))
	printed, done := 0, 0
	for range 400 {
		x := some(r, 12, 8, 8, 0, 1)
		words, tape, first := someWords(r, x.Data), someWords(r, r.IntN(30)), r.IntN(len(x.Orders))
		l, m := someLayout(r, x), someLayout(r, x)
		a, b := begin(t, x, l, words, tape, first), begin(t, x, m, words, tape, first)
		for range 60 {
			if !slices.Equal(a.Printed, b.Printed) || a.Taken != b.Taken || a.Done != b.Done || a.Why != b.Why || slices.Index(l, a.At) != slices.Index(m, b.At) {
				t.Fatalf("%v with %v and %v: %v; %v", x, l, m, a, b)
			}
			for item := len(x.Orders); item < items(x); item++ {
				if a.Store[l[item]] != b.Store[m[item]] {
					t.Fatalf("%v with %v and %v: the words at %d differ", x, l, m, item)
				}
			}
			a, b = must[api.OrState](t)(order.Run(a, 1)), must[api.OrState](t)(order.Run(b, 1))
		}
		printed, done = printed+len(a.Printed), done+a.Done
	}
	if printed < 200 || done < 2000 {
		t.Errorf("only %d words are printed, and %d orders done", printed, done)
	}
}

// P6.9: a run takes as many minor cycles as the path that it takes, from any of its orders to any other one.
func TestRunsTakeAsLong(t *testing.T) {
	r := rand.New(rand.NewPCG(33, 6))
	long := 0
	for range 1500 {
		x := some(r, 12, 8, 8, 0, 1)
		l := someLayout(r, x)
		s := begin(t, x, l, someWords(r, x.Data), someWords(r, 20), r.IntN(len(x.Orders)))
		steps := must[[]api.OrStep](t)(order.Trace(s, 60))
		from := r.IntN(len(steps) + 1)
		steps = steps[from:]
		steps = steps[:min(len(steps), r.IntN(24))]
		if len(steps) == 0 {
			continue
		}
		var path []int
		for _, step := range steps {
			path = append(path, slices.Index(l, step.At))
		}
		end := must[api.OrState](t)(order.Run(s, from+len(steps)))
		path = append(path, slices.Index(l, end.At))
		x.Paths = []api.LaPath{{Orders: path, Count: 1}}
		if n := cost(t, x, l); n != end.Time-steps[0].Time || end.Time != steps[len(steps)-1].Until {
			t.Fatalf("%v with %v takes %d, the run %d", x, l, n, end.Time-steps[0].Time)
		}
		long = max(long, len(path))
	}
	if long < 24 {
		t.Errorf("the longest path has only %d orders", long)
	}
}
