package layout_test

import (
	"math"
	"math/rand/v2"
	"slices"
	"testing"

	"quicksilver/api"
	"quicksilver/layout"
)

// example is T of the chapter's examples, product U.
func example() api.LaTask {
	return api.LaTask{
		Orders: []api.LaOrder{{Op: api.OrAdd, From: 0, To: 1, Next: 1}, {Op: api.OrTest, From: 1, To: 0, Next: 1}},
		Data:   2,
		Lines:  1,
		Paths:  []api.LaPath{{Orders: []int{0, 1, 0}, Count: 10}},
	}
}

func product() api.LaTask {
	x := example()
	x.Orders[0].Op = api.OrMul
	return x
}

// must returns a function that returns what a call does, and fails if the call has an error.
func must[T any](t *testing.T) func(T, api.Errno) T {
	t.Helper()
	return func(result T, e api.Errno) T {
		t.Helper()
		if e != api.OK {
			t.Fatalf("error %d", e)
		}
		return result
	}
}

// cost is Cost of what has no error.
func cost(t *testing.T, x api.LaTask, l []int) int {
	t.Helper()
	return must[int](t)(layout.Cost(x, l))
}

// bound is Bound of what has no error.
func bound(t *testing.T, x api.LaTask) ([]api.LaPair, int) {
	t.Helper()
	proof, n, e := layout.Bound(x)
	if e != api.OK {
		t.Fatalf("Bound of %v: %d", x, e)
	}
	return proof, n
}

// items is how many items a task has.
func items(x api.LaTask) int { return len(x.Orders) + x.Data }

// readsAt, writesAt and goesOn say whether From and To are data, and whether Next is an order.
func readsAt(op int) bool { return op != api.OrHalt && op != api.OrRead }

func writesAt(op int) bool { return goesOn(op) && op != api.OrTest && op != api.OrPrint }

func goesOn(op int) bool { return op != api.OrHalt }

// someOp returns an Op that there can be with so many data.
func someOp(r *rand.Rand, data int) int {
	switch {
	case data == 0:
		return api.OrHalt // All others use a datum.
	case r.IntN(3) == 0:
		return api.OrTest
	case r.IntN(12) == 0:
		return api.OrHalt
	}
	return 1 + r.IntN(7)
}

// someOrder returns an order; what is not looked at is anything.
func someOrder(r *rand.Rand, orders, data int) api.LaOrder {
	o := api.LaOrder{Op: someOp(r, data), From: r.IntN(90) - 30, To: math.MinInt, Next: math.MaxInt}
	if readsAt(o.Op) {
		o.From = r.IntN(data)
	}
	if writesAt(o.Op) {
		o.To = r.IntN(data)
	}
	if o.Op == api.OrTest {
		o.To = r.IntN(orders)
	}
	if goesOn(o.Op) {
		o.Next = r.IntN(orders)
	}
	return o
}

// somePath returns a path with at most so many orders.
func somePath(r *rand.Rand, orders []api.LaOrder, most int) api.LaPath {
	at := r.IntN(len(orders))
	p := api.LaPath{Orders: []int{at}, Count: 1 + r.IntN(30)}
	for many := r.IntN(most); many > 0 && goesOn(orders[at].Op); many-- {
		o := orders[at]
		at = o.Next
		if o.Op == api.OrTest && r.IntN(2) == 0 {
			at = o.To
		}
		p.Orders = append(p.Orders, at)
	}
	return p
}

// some returns a task with at most so many orders, data, lines, paths, and orders of a path.
func some(r *rand.Rand, orders, data, lines, paths, path int) api.LaTask {
	x := api.LaTask{Data: r.IntN(data + 1), Lines: 1 + r.IntN(lines)}
	n := 1 + r.IntN(orders)
	if n+x.Data > 16 {
		x.Lines = max(x.Lines, 3)
	}
	for range n {
		x.Orders = append(x.Orders, someOrder(r, n, x.Data))
	}
	for range r.IntN(paths + 1) {
		x.Paths = append(x.Paths, somePath(r, x.Orders, path))
	}
	return x
}

// someTask returns a task of any size.
func someTask(r *rand.Rand) api.LaTask { return some(r, 24, 16, 8, 8, 24) }

// someLayout returns a layout of a task.
func someLayout(r *rand.Rand, x api.LaTask) []int { return r.Perm(16 * x.Lines)[:items(x)] }

// errorOf is the error of Check.
func errorOf(x api.LaTask) api.Errno {
	_, _, e := layout.Check(x)
	return e
}

// P6.1: the sizes, their ends and what is beyond them, and which error is first.
func TestCheckSizes(t *testing.T) {
	orders := func(n int) func(x *api.LaTask) {
		return func(x *api.LaTask) { x.Orders, x.Paths, x.Lines = make([]api.LaOrder, n), nil, 2 }
	}
	paths := func(n int) func(x *api.LaTask) {
		return func(x *api.LaTask) { x.Paths = slices.Repeat(x.Paths, n) }
	}
	data := func(n int) func(x *api.LaTask) { return func(x *api.LaTask) { x.Data, x.Lines = n, 2 } }
	lines := func(n int) func(x *api.LaTask) { return func(x *api.LaTask) { x.Lines = n } }
	all := func(orders, data, lines int) func(x *api.LaTask) {
		return func(x *api.LaTask) {
			x.Orders, x.Data, x.Lines, x.Paths = make([]api.LaOrder, orders), data, lines, nil
		}
	}
	for i, c := range []struct {
		change func(x *api.LaTask)
		part   int
		e      api.Errno
	}{
		{func(x *api.LaTask) {}, 0, api.OK},
		{orders(0), 1, api.ErrLong}, {orders(1), 0, api.OK}, {orders(24), 0, api.OK}, {orders(25), 1, api.ErrLong}, {orders(1000), 1, api.ErrLong},
		{paths(0), 0, api.OK}, {paths(8), 0, api.OK}, {paths(9), 1, api.ErrLong}, {paths(1000), 1, api.ErrLong},
		{data(2), 0, api.OK}, {data(16), 0, api.OK}, {data(17), 1, api.ErrRange}, {data(-1), 1, api.ErrRange}, {data(math.MaxInt), 1, api.ErrRange}, {data(math.MinInt), 1, api.ErrRange},
		{lines(1), 0, api.OK}, {lines(8), 0, api.OK}, {lines(9), 1, api.ErrRange}, {lines(0), 1, api.ErrRange}, {lines(-1), 1, api.ErrRange}, {lines(math.MaxInt), 1, api.ErrRange}, {lines(math.MinInt), 1, api.ErrRange},
		{all(8, 8, 1), 0, api.OK}, {all(9, 8, 1), 1, api.ErrLong}, {all(16, 16, 2), 0, api.OK}, {all(17, 16, 2), 1, api.ErrLong}, {all(24, 16, 3), 0, api.OK}, {all(1, 16, 1), 1, api.ErrLong}, {all(17, 0, 1), 1, api.ErrLong},
		// Of several errors the first one.
		{all(0, 17, 1), 1, api.ErrLong}, {all(25, 0, 0), 1, api.ErrLong}, {all(24, -1, 1), 1, api.ErrRange}, {all(24, 17, 1), 1, api.ErrRange}, {all(1, 16, 0), 1, api.ErrRange},
		{func(x *api.LaTask) { x.Paths, x.Data = make([]api.LaPath, 9), -1 }, 1, api.ErrLong},
		{func(x *api.LaTask) { x.Data, x.Orders[0].Op = 17, -1 }, 1, api.ErrRange},
		{func(x *api.LaTask) { x.Data, x.Orders[0].Op = 15, -1 }, 1, api.ErrLong},
	} {
		x := example()
		c.change(&x)
		if part, at, e := layout.Check(x); part != c.part || at != 0 || e != c.e {
			t.Errorf("%d: Check of %v = %d, %d, %d", i, x, part, at, e)
		}
	}
}

// P6.1: an Op that is none, and an index that is none if it is looked at, whatever else there is.
func TestCheckOrders(t *testing.T) {
	check := func(o api.LaOrder, e api.Errno) {
		t.Helper()
		x := api.LaTask{Orders: make([]api.LaOrder, 5), Data: 3, Lines: 1}
		x.Orders[2] = o
		part, at := 2, 2
		if e == api.OK {
			part, at = 0, 0
		}
		if p, a, f := layout.Check(x); p != part || a != at || f != e {
			t.Errorf("Check with %v = %d, %d, %d; not %d", o, p, a, f, e)
		}
	}
	for _, op := range []int{-1, 8, math.MinInt, math.MaxInt} {
		check(api.LaOrder{Op: op}, api.ErrArg)
		check(api.LaOrder{Op: op, From: -1, To: -1, Next: -1}, api.ErrArg)
	}
	noneOr := func(looked bool) api.Errno {
		if looked {
			return api.ErrNone
		}
		return api.OK
	}
	for op := range 8 {
		check(api.LaOrder{Op: op, From: 2, To: 2, Next: 4}, api.OK)
		for _, n := range []int{-1, 5, 6, math.MinInt, math.MaxInt} {
			check(api.LaOrder{Op: op, Next: n}, noneOr(goesOn(op)))
			check(api.LaOrder{Op: op, To: n}, noneOr(writesAt(op) || op == api.OrTest))
			check(api.LaOrder{Op: op, From: n}, noneOr(readsAt(op)))
		}
		// There are three data and five orders.
		for _, n := range []int{3, 4} {
			check(api.LaOrder{Op: op, Next: n}, api.OK)
			check(api.LaOrder{Op: op, To: n}, noneOr(writesAt(op)))
			check(api.LaOrder{Op: op, From: n}, noneOr(readsAt(op)))
		}
	}
}

// P6.1: the first order with an error decides, also if a later one has an error that is named before.
func TestCheckFirstOrder(t *testing.T) {
	x := example()
	x.Orders = append(x.Orders, api.LaOrder{Op: 9}, api.LaOrder{Op: -1})
	x.Orders[1].From = 2
	x.Paths[0].Count = 0
	for i, want := range []api.Errno{api.ErrNone, api.ErrArg, api.ErrArg} {
		if part, at, e := layout.Check(x); part != 2 || at != i+1 || e != want {
			t.Errorf("Check = %d, %d, %d", part, at, e)
		}
		x.Orders[i+1] = api.LaOrder{}
	}
	if part, at, e := layout.Check(x); part != 3 || at != 0 || e != api.ErrRange {
		t.Errorf("Check = %d, %d, %d", part, at, e)
	}
}

// P6.1: paths: their lengths, their counts, their orders, and where these lead.
func TestCheckPaths(t *testing.T) {
	long := func(n int) []int { return append(slices.Repeat([]int{1}, n-1), 0) }
	for i, c := range []struct {
		orders []int
		count  int
		e      api.Errno
	}{
		{[]int{0}, 1, api.OK}, {[]int{3}, 1000, api.OK}, {long(24), 1, api.OK},
		{nil, 1, api.ErrLong}, {nil, 0, api.ErrLong}, {long(25), 1, api.ErrLong}, {make([]int, 1000), -1, api.ErrLong},
		{[]int{0}, 0, api.ErrRange}, {[]int{0}, 1001, api.ErrRange}, {[]int{0}, -1, api.ErrRange}, {[]int{0}, math.MaxInt, api.ErrRange}, {[]int{0}, math.MinInt, api.ErrRange}, {[]int{-1}, 0, api.ErrRange},
		{[]int{-1}, 1, api.ErrNone}, {[]int{4}, 1, api.ErrNone}, {[]int{math.MaxInt}, 1, api.ErrNone}, {[]int{math.MinInt}, 1, api.ErrNone}, {[]int{0, 0, 4}, 1, api.ErrNone}, {[]int{0, 4}, 1, api.ErrNone}, {[]int{3, -1}, 1, api.ErrNone},
		// 0 leads to 1, 1 to 1 and 0, 2 to 2, 3 to none.
		{[]int{0, 1}, 1, api.OK}, {[]int{0, 0}, 1, api.ErrArg}, {[]int{0, 2}, 1, api.ErrArg}, {[]int{0, 3}, 1, api.ErrArg},
		{[]int{1, 0}, 1, api.OK}, {[]int{1, 1}, 1, api.OK}, {[]int{1, 2}, 1, api.ErrArg}, {[]int{1, 3}, 1, api.ErrArg},
		{[]int{2, 2}, 1, api.OK}, {[]int{2, 0}, 1, api.ErrArg}, {[]int{2, 1}, 1, api.ErrArg}, {[]int{2, 3}, 1, api.ErrArg},
		{[]int{3, 0}, 1, api.ErrArg}, {[]int{3, 1}, 1, api.ErrArg}, {[]int{3, 3}, 1, api.ErrArg},
		{[]int{0, 1, 1, 0, 1, 0, 1, 1, 1}, 1, api.OK}, {[]int{0, 1, 1, 0, 1, 0, 1, 1, 2}, 1, api.ErrArg},
	} {
		x := example()
		// What the others do not look at leads nowhere.
		x.Orders = append(x.Orders, api.LaOrder{Op: api.OrMove, From: 0, To: 1, Next: 2}, api.LaOrder{Op: api.OrHalt, From: 1, To: 1, Next: 0})
		x.Paths = append(x.Paths, api.LaPath{Orders: c.orders, Count: c.count}, api.LaPath{})
		part, at := 3, 1
		if c.e == api.OK {
			x.Paths = x.Paths[:2]
			part, at = 0, 0
		}
		if p, a, e := layout.Check(x); p != part || a != at || e != c.e {
			t.Errorf("%d: Check = %d, %d, %d", i, p, a, e)
		}
	}
}

// P6.1: tasks made at random have no error.
func TestCheckOfTasks(t *testing.T) {
	r := rand.New(rand.NewPCG(1, 6))
	for range 3000 {
		if x := someTask(r); errorOf(x) != api.OK {
			t.Fatalf("Check of %v = %d", x, errorOf(x))
		}
	}
}

// All functions with a task return its error before any other one.
func TestErrorOfTaskFirst(t *testing.T) {
	for i, change := range []func(x *api.LaTask){
		func(x *api.LaTask) { x.Orders = nil },
		func(x *api.LaTask) { x.Lines = 9 },
		func(x *api.LaTask) { x.Data = 15 },
		func(x *api.LaTask) { x.Orders[1].Op = 8 },
		func(x *api.LaTask) { x.Orders[1].To = 2 },
		func(x *api.LaTask) { x.Paths[0].Count = 0 },
		func(x *api.LaTask) { x.Paths[0].Orders[1] = 0 },
	} {
		x := example()
		change(&x)
		want := errorOf(x)
		n, e1 := layout.Cost(x, []int{-1, 0, 0})
		proof, m, e2 := layout.Bound(x)
		k, e3 := layout.Accept(x, make([]api.LaPair, 1501))
		good, e4 := layout.Good(x)
		best, e5 := layout.Best(x)
		store, e6 := layout.Lay(x, nil, []int{-1})
		for _, e := range []api.Errno{e1, e2, e3, e4, e5, e6} {
			if e != want || e == api.OK {
				t.Errorf("%d: %d, not %d", i, e, want)
			}
		}
		if n != 0 || m != 0 || k != 0 || len(proof)+len(good)+len(best)+len(store) > 0 {
			t.Errorf("%d: with an error there are results", i)
		}
	}
}
