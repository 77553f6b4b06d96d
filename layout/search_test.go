package layout_test

import (
	"math/rand/v2"
	"slices"
	"testing"

	"quicksilver/api"
	"quicksilver/layout"
)

// firstLaid lays the items of the paths, and then all others, by the chapter's definition.
func firstLaid(x api.LaTask) []int {
	at := map[int]int{}
	taken := make([]bool, 16*x.Lines)
	lay := func(item, address int) { at[item], taken[address] = address, true }
	seen := make([]bool, len(x.Paths))
	for range x.Paths {
		next := -1
		for i, path := range x.Paths {
			if !seen[i] && (next == -1 || path.Count > x.Paths[next].Count) {
				next = i
			}
		}
		seen[next] = true
		place := 0
		for _, item := range itemsOf(events(x, x.Paths[next])) {
			if _, laid := at[item]; !laid {
				free := func(address int) bool { return address < len(taken) && !taken[address] }
				address := place
				for !free(address) {
					if address += 16; address >= len(taken) {
						address = (address%16 + 1) % 16
					}
				}
				lay(item, address)
			}
			place = (at[item] + 1) % 16
		}
	}
	var l []int
	for item := range items(x) {
		if _, laid := at[item]; !laid {
			lay(item, slices.Index(taken, false))
		}
		l = append(l, at[item])
	}
	return l
}

// goodByDefinition returns the good layout, and how many times addresses were exchanged.
func goodByDefinition(x api.LaTask) (l []int, times int) {
	l = firstLaid(x)
	for {
		lowest, first, second := costByTables(x, l), -1, -1
		for i := range l {
			for k := range i {
				l[i], l[k] = l[k], l[i]
				// Compared by the lesser index, then by the other one.
				n := costByTables(x, l)
				if n < lowest || n == lowest && first != -1 && (k < first || k == first && i < second) {
					lowest, first, second = n, k, i
				}
				l[i], l[k] = l[k], l[i]
			}
		}
		if first == -1 {
			return l, times
		}
		l[first], l[second] = l[second], l[first]
		times++
	}
}

// costByTables is the cost of a layout, by a rule: from a place to one that is 0 to 15 places on it takes 16, 1, .. 15.
func costByTables(x api.LaTask, l []int) int {
	all := 0
	for _, path := range x.Paths {
		e := itemsOf(events(x, path))
		for i := range len(e) - 1 {
			wait := (l[e[i+1]] - l[e[i]] + 128) % 16
			if wait == 0 {
				wait = 16
			}
			all += wait * path.Count
		}
	}
	return all
}

// bestByDefinition tries all layouts, in order.
func bestByDefinition(x api.LaTask) []int {
	var best []int
	lowest := -1
	var try func(l []int)
	try = func(l []int) {
		if len(l) == items(x) {
			if n := costByTables(x, l); lowest == -1 || n < lowest {
				best, lowest = slices.Clone(l), n
			}
			return
		}
		for address := range 16 * x.Lines {
			if !slices.Contains(l, address) {
				try(append(l, address))
			}
		}
	}
	try(nil)
	return best
}

// P6.4: the chapter's examples, and layouts that are made by hand.
func TestGood(t *testing.T) {
	halts := func(n int) api.LaTask { return api.LaTask{Orders: make([]api.LaOrder, n), Data: 1, Lines: 2} }
	// Two orders that print, of which the second one is the first of the path with the greater Count.
	two := api.LaTask{
		Orders: []api.LaOrder{{Op: api.OrPrint, From: 0, Next: 1}, {Op: api.OrPrint, From: 1, Next: 0}},
		Data:   3,
		Lines:  1,
		Paths:  []api.LaPath{{Orders: []int{0, 1}, Count: 1}, {Orders: []int{1, 0}, Count: 2}},
	}
	equal := two
	equal.Paths = []api.LaPath{{Orders: []int{0, 1}, Count: 2}, {Orders: []int{1, 0}, Count: 2}}
	for i, c := range []struct {
		x    api.LaTask
		want []int
	}{
		{example(), []int{0, 3, 1, 2}},
		{product(), []int{0, 3, 1, 2}},
		{two, []int{2, 0, 3, 1, 4}},
		{equal, []int{0, 2, 1, 3, 4}},
		{halts(1), []int{0, 1}},
		{halts(17), []int{0, 1, 2, 3, 4, 5, 6, 7, 8, 9, 10, 11, 12, 13, 14, 15, 16, 17}},
	} {
		if l, e := layout.Good(c.x); !slices.Equal(l, c.want) || e != api.OK {
			t.Errorf("%d: Good = %v, %d", i, l, e)
		}
	}
}

// P6.4: tasks made at random, by definition, also where a line or all of them are full.
func TestGoodByDefinition(t *testing.T) {
	r := rand.New(rand.NewPCG(21, 6))
	most, full := 0, 0
	for i := range 250 {
		x := someTask(r)
		switch {
		case i%4 == 0:
			x = some(r, 9, 7, 1, 6, 24)
		case i%4 == 1 && items(x) <= 32:
			x.Lines = (items(x) + 15) / 16
		}
		want, times := goodByDefinition(x)
		if l, e := layout.Good(x); !slices.Equal(l, want) || e != api.OK {
			t.Fatalf("Good of %v = %v, %d; not %v", x, l, e, want)
		}
		most = max(most, times)
		if items(x) == 16*x.Lines {
			full++
		}
	}
	if most < 5 || full < 2 {
		t.Errorf("at most %d times exchanged, %d times full", most, full)
	}
}

// P6.11: the good layout is one; with no two items exchanged it takes less.
func TestGoodIsGood(t *testing.T) {
	r := rand.New(rand.NewPCG(22, 6))
	for range 60 {
		x := someTask(r)
		l := must[[]int](t)(layout.Good(x))
		n := cost(t, x, l)
		for i := range l {
			for k := range i {
				l[i], l[k] = l[k], l[i]
				if m := cost(t, x, l); m < n {
					t.Fatalf("%v takes %d with %d and %d exchanged, and %d before", x, m, k, i, n)
				}
				l[i], l[k] = l[k], l[i]
			}
		}
	}
}

// fewItems returns a task with at most four items, or fewer.
func fewItems(r *rand.Rand, most, lines int) api.LaTask {
	x := some(r, most, most, lines, 3, 12)
	for items(x) > most {
		x = some(r, most, most, lines, 3, 12)
	}
	return x
}

// P6.4: the chapter's examples, and few items or too many.
func TestBest(t *testing.T) {
	loop := api.LaTask{Orders: []api.LaOrder{{Op: api.OrMul}}, Data: 1, Lines: 8, Paths: []api.LaPath{{Orders: []int{0, 0}, Count: 1}}}
	five := example()
	five.Data = 3
	for i, c := range []struct {
		x    api.LaTask
		want []int
		e    api.Errno
	}{
		{example(), []int{0, 1, 2, 3}, api.OK},
		{product(), []int{0, 1, 2, 3}, api.OK},
		{loop, []int{0, 1}, api.OK},
		{five, nil, api.ErrLong},
		{api.LaTask{Orders: make([]api.LaOrder, 1), Lines: 1}, []int{0}, api.OK},
		{api.LaTask{Orders: make([]api.LaOrder, 4), Lines: 1}, []int{0, 1, 2, 3}, api.OK},
		{api.LaTask{Orders: make([]api.LaOrder, 5), Lines: 1}, nil, api.ErrLong},
		{api.LaTask{Orders: make([]api.LaOrder, 1), Data: 4, Lines: 8}, nil, api.ErrLong},
	} {
		if l, e := layout.Best(c.x); !slices.Equal(l, c.want) || e != c.e {
			t.Errorf("%d: Best = %v, %d", i, l, e)
		}
	}
}

// P6.4, P6.7: all layouts of few items are tried; the first of those that take the least is the best one.
func TestBestByDefinition(t *testing.T) {
	r := rand.New(rand.NewPCG(23, 6))
	check := func(x api.LaTask) {
		t.Helper()
		want := bestByDefinition(x)
		if l, e := layout.Best(x); !slices.Equal(l, want) || e != api.OK {
			t.Fatalf("Best of %v = %v, %d; not %v", x, l, e, want)
		}
	}
	for range 20 {
		check(fewItems(r, 4, 1))
	}
	for range 40 {
		check(fewItems(r, 3, 2))
		check(fewItems(r, 2, 8))
	}
}

// P6.4: two paths of two orders that go on to each other: the best layout has two items at one place, in two lines.
func TestBestAtOnePlace(t *testing.T) {
	x := api.LaTask{
		Orders: []api.LaOrder{{Op: api.OrTest, From: 0, To: 1, Next: 2}, {}, {}},
		Data:   1,
		Lines:  2,
		Paths:  []api.LaPath{{Orders: []int{0, 1}, Count: 1}, {Orders: []int{0, 2}, Count: 1}},
	}
	if l, e := layout.Best(x); !slices.Equal(l, []int{0, 2, 18, 1}) || e != api.OK || cost(t, x, l) != 4 {
		t.Errorf("Best = %v, %d", l, e)
	}
	x.Lines = 1
	if l, e := layout.Best(x); !slices.Equal(l, []int{0, 2, 3, 1}) || e != api.OK || cost(t, x, l) != 5 {
		t.Errorf("Best = %v, %d", l, e)
	}
}

// P6.7: no layout takes less than that of Best, nor does the good one, and Best takes no less than the bound; P6.12: with a line more it takes no more.
func TestBestTakesLeast(t *testing.T) {
	r := rand.New(rand.NewPCG(24, 6))
	less := 0
	for range 500 {
		x := fewItems(r, 4, 8)
		n := cost(t, x, must[[]int](t)(layout.Best(x)))
		for range 50 {
			if l := someLayout(r, x); cost(t, x, l) < n {
				t.Fatalf("%v takes less than %d with %v", x, n, l)
			}
		}
		good := cost(t, x, must[[]int](t)(layout.Good(x)))
		if _, b := bound(t, x); good < n || n < b {
			t.Fatalf("%v takes %d, and %d with the good layout; the bound is %d", x, n, good, b)
		}
		if good > n {
			less++
		}
		if x.Lines < 8 {
			y := x
			y.Lines++
			if m := cost(t, y, must[[]int](t)(layout.Best(y))); m > n {
				t.Fatalf("%v takes %d, and %d with a line more", x, n, m)
			}
		}
	}
	if less < 3 {
		t.Errorf("only %d layouts are better than the good one", less)
	}
}
