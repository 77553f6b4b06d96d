package layout_test

import (
	"math"
	"math/rand/v2"
	"slices"
	"testing"

	"quicksilver/api"
	"quicksilver/layout"
	"quicksilver/order"
)

// event is an item that comes by, after the machine has been busy.
type event struct{ item, busy int }

// events goes through a path, thing by thing.
func events(x api.LaTask, path api.LaPath) []event {
	var l []event
	for i, index := range path.Orders {
		l = append(l, event{item: index})
		if i == len(path.Orders)-1 {
			break
		}
		o := x.Orders[index]
		from, to := event{item: len(x.Orders) + o.From}, event{item: len(x.Orders) + o.To}
		switch o.Op {
		case api.OrMove, api.OrAdd, api.OrSub:
			l = append(l, from, to)
		case api.OrMul:
			l = append(l, from, to, event{item: to.item, busy: 12})
		case api.OrTest, api.OrPrint:
			l = append(l, from)
		case api.OrRead:
			l = append(l, to)
		}
	}
	return l
}

// itemsOf returns the items of events.
func itemsOf(events []event) []int {
	var l []int
	for _, v := range events {
		l = append(l, v.item)
	}
	return l
}

// timesOf counts minor cycles from event to event.
func timesOf(events []event, l []int) []int {
	time := l[events[0].item] % 16
	times := []int{time}
	for _, v := range events[1:] {
		for time += v.busy + 1; time%16 != l[v.item]%16; time++ {
		}
		times = append(times, time)
	}
	return times
}

// costByDefinition is what all paths take, each as often as its Count.
func costByDefinition(x api.LaTask, l []int) int {
	all := 0
	for _, path := range x.Paths {
		times := timesOf(events(x, path), l)
		for range path.Count {
			all += times[len(times)-1] - times[0]
		}
	}
	return all
}

// P6.2: the chapter's examples: events, times and costs.
func TestCostOfExamples(t *testing.T) {
	x, u := example(), product()
	l := events(x, x.Paths[0])
	if !slices.Equal(itemsOf(l), []int{0, 2, 3, 1, 3, 0}) || !slices.Equal(timesOf(l, []int{0, 3, 1, 2}), []int{0, 1, 2, 3, 18, 32}) {
		t.Errorf("the events are %v", l)
	}
	for _, c := range []struct {
		x    api.LaTask
		l    []int
		want int
	}{
		{x, []int{0, 3, 1, 2}, 320},
		{x, []int{0, 3, 2, 1}, 480},
		{x, []int{0, 1, 2, 3}, 320},
		// The order 0 comes by in 0, its data in 1, 2 and 18, the order 1 in 19, its datum in 34, the order 0 in 48.
		{u, []int{0, 3, 1, 2}, 480},
		{u, []int{0, 1, 2, 3}, 480},
		{u, []int{3, 2, 1, 0}, 640},
	} {
		if n, e := layout.Cost(c.x, c.l); n != c.want || e != api.OK || n != costByDefinition(c.x, c.l) {
			t.Errorf("Cost with %v = %d, %d", c.l, n, e)
		}
	}
}

// P6.2: each Op alone, at all places: what an order waits for is what layer 4 says.
func TestCostOfEachOp(t *testing.T) {
	for op := 1; op <= 7; op++ {
		x := api.LaTask{Orders: []api.LaOrder{{Op: op, From: 0, To: 1, Next: 1}, {}}, Data: 2, Lines: 8}
		x.Paths = []api.LaPath{{Orders: []int{0, 1}, Count: 3}}
		for places := range 1 << 12 {
			l := []int{5, places&15 + 16, places>>4&15 + 32, places>>8&15 + 48}
			o := api.OrOrder{Op: op, From: l[2], To: l[3], Next: l[1]}
			if op == api.OrTest {
				o.To = l[1]
			}
			_, until, e := order.When(o, 5, false)
			if n := cost(t, x, l); e != api.OK || n != 3*(until-5) {
				t.Fatalf("%d with %v takes %d, not %d", op, l, n, until-5)
			}
		}
	}
}

// P6.2: tasks made at random, against the chapter's definitions.
func TestCostByDefinition(t *testing.T) {
	r := rand.New(rand.NewPCG(2, 6))
	taken := 0
	for range 3000 {
		x := someTask(r)
		l := someLayout(r, x)
		want := costByDefinition(x, l)
		if n := cost(t, x, l); n != want {
			t.Fatalf("Cost of %v with %v = %d, not %d", x, l, n, want)
		}
		taken = max(taken, want)
	}
	if taken < 10000 {
		t.Errorf("the greatest cost is only %d", taken)
	}
}

// P6.2: no paths, and paths of one order, take no time.
func TestCostOfNothing(t *testing.T) {
	x := example()
	x.Paths = nil
	y := example()
	y.Paths = []api.LaPath{{Orders: []int{0}, Count: 1000}, {Orders: []int{1}, Count: 1}}
	for _, x := range []api.LaTask{x, y} {
		if n, e := layout.Cost(x, []int{9, 8, 7, 6}); n != 0 || e != api.OK {
			t.Errorf("Cost = %d, %d", n, e)
		}
	}
}

// The error of a layout, for Cost and for Lay, which comes before that of the words.
func TestErrorOfLayout(t *testing.T) {
	for i, c := range []struct {
		lines  int
		layout []int
		e      api.Errno
	}{
		{1, nil, api.ErrLong}, {1, []int{0, 1, 2}, api.ErrLong}, {1, []int{0, 1, 2, 3, 4}, api.ErrLong}, {1, []int{-1, 0, 0}, api.ErrLong},
		{1, []int{15, 1, 2, 0}, api.OK}, {1, []int{16, 1, 2, 0}, api.ErrRange}, {2, []int{16, 31, 2, 0}, api.OK}, {2, []int{16, 32, 2, 0}, api.ErrRange}, {8, []int{16, 127, 2, 0}, api.OK}, {8, []int{16, 128, 2, 0}, api.ErrRange},
		{1, []int{0, 1, 2, -1}, api.ErrRange}, {1, []int{math.MinInt, 1, 2, 3}, api.ErrRange}, {1, []int{0, math.MaxInt, 2, 3}, api.ErrRange},
		{1, []int{0, 1, 2, 0}, api.ErrTwice}, {8, []int{127, 1, 127, 2}, api.ErrTwice}, {8, []int{0, 16, 32, 48}, api.OK},
		// The first address with an error decides.
		{1, []int{0, 0, -1, 1}, api.ErrTwice}, {1, []int{-1, -1, 0, 0}, api.ErrRange}, {1, []int{3, 16, 3, 1}, api.ErrRange}, {1, []int{16, 1, 16, 1}, api.ErrRange},
	} {
		x := example()
		x.Lines = c.lines
		n, e := layout.Cost(x, c.layout)
		if e != c.e || e != api.OK && n != 0 {
			t.Errorf("%d: Cost = %d, %d", i, n, e)
		}
		want := c.e
		if want == api.OK {
			want = api.ErrLong
		}
		if s, e := layout.Lay(x, c.layout, []int{-1}); len(s) != 0 || e != want {
			t.Errorf("%d: Lay = %v, %d", i, s, e)
		}
	}
}

// turned returns a layout with all addresses at the next place of their lines.
func turned(l []int) []int {
	var next []int
	for _, a := range l {
		next = append(next, a/16*16+(a%16+1)%16)
	}
	return next
}

// P6.10: turned, or with lines exchanged, a layout takes the same.
func TestTurned(t *testing.T) {
	r := rand.New(rand.NewPCG(3, 6))
	for range 500 {
		x := someTask(r)
		l := someLayout(r, x)
		want := cost(t, x, l)
		var exchanged []int
		lines := r.Perm(x.Lines)
		for _, a := range l {
			exchanged = append(exchanged, lines[a/16]*16+a%16)
		}
		if n := cost(t, x, exchanged); n != want {
			t.Fatalf("%v with %v takes %d; with the lines %v %d", x, l, want, lines, n)
		}
		for range 16 {
			l = turned(l)
			if n := cost(t, x, l); n != want {
				t.Fatalf("%v with %v takes %d, not %d", x, l, n, want)
			}
		}
	}
}

// P6.12: with a path less a layout takes no more, and the bound is no greater.
func TestPathLess(t *testing.T) {
	r := rand.New(rand.NewPCG(4, 6))
	for range 150 {
		x := someTask(r)
		l := someLayout(r, x)
		_, b := bound(t, x)
		for i := range x.Paths {
			y := x
			y.Paths = slices.Delete(slices.Clone(x.Paths), i, i+1)
			if _, c := bound(t, y); cost(t, y, l) > cost(t, x, l) || c > b {
				t.Fatalf("%v without the path %d has a greater cost or bound", x, i)
			}
		}
	}
}

// P6.12: with as many times greater Counts the cost and the bound are as many times greater.
func TestCounts(t *testing.T) {
	r := rand.New(rand.NewPCG(5, 6))
	for range 200 {
		x := someTask(r)
		l, many := someLayout(r, x), 1+r.IntN(33)
		y := x
		y.Paths = slices.Clone(x.Paths)
		for i := range y.Paths {
			y.Paths[i].Count *= many
		}
		proof, b := bound(t, x)
		if again, c := bound(t, y); cost(t, y, l) != many*cost(t, x, l) || c != many*b || !slices.Equal(again, proof) {
			t.Fatalf("%v, %d times: %d and %d; %d and %d", x, many, cost(t, y, l), c, cost(t, x, l), b)
		}
	}
}
