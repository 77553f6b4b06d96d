package layout_test

import (
	"cmp"
	"math"
	"math/rand/v2"
	"slices"
	"testing"

	"quicksilver/api"
	"quicksilver/layout"
)

// in is a pair of the first path.
func in(from, to int) api.LaPair { return api.LaPair{From: from, To: to} }

// up is the least multiple of 16 that is not below n.
func up(n int) int {
	for n%16 != 0 {
		n++
	}
	return n
}

// lies says whether a pair lies between two events.
func lies(p api.LaPair, from, to int) bool { return from <= p.From && p.To <= to }

// valueOf is the value of what is between two events of a path, by the pairs of this path.
func valueOf(pairs []api.LaPair, from, to int) int {
	var inside []api.LaPair
	for _, p := range pairs {
		if lies(p, from, to) && (p.From != from || p.To != to) {
			inside = append(inside, p)
		}
	}
	all := 0
	for _, p := range inside {
		inOther := slices.ContainsFunc(inside, func(q api.LaPair) bool { return q != p && lies(p, q.From, q.To) })
		if !inOther {
			all += up(valueOf(pairs, p.From, p.To))
		}
	}
	for step := from; step < to; step++ {
		inPair := slices.ContainsFunc(inside, func(q api.LaPair) bool { return q.From <= step && step < q.To })
		if !inPair {
			all++
		}
	}
	return all
}

// boundByDefinition is the bound of a proof that is accepted.
func boundByDefinition(x api.LaTask, proof []api.LaPair) int {
	all := 0
	for i, path := range x.Paths {
		var pairs []api.LaPair
		for _, p := range proof {
			if p.Path == i {
				pairs = append(pairs, p)
			}
		}
		last := len(events(x, path)) - 1
		value := valueOf(pairs, 0, last)
		if slices.Contains(pairs, api.LaPair{Path: i, From: 0, To: last}) {
			value = up(value)
		}
		all += value * path.Count
	}
	return all
}

// fits says whether two pairs can be in one proof.
func fits(a, b api.LaPair) bool {
	if a.Path != b.Path {
		return true
	}
	same := a.From == b.From && a.To == b.To
	return !same && (lies(a, b.From, b.To) || lies(b, a.From, a.To) || a.To <= b.From || b.To <= a.From)
}

// fitAll says whether all pairs of a proof fit each other.
func fitAll(proof []api.LaPair) bool {
	for i, a := range proof {
		for _, b := range proof[:i] {
			if !fits(a, b) {
				return false
			}
		}
	}
	return true
}

// allPairs returns all pairs of a task.
func allPairs(x api.LaTask) []api.LaPair {
	var l []api.LaPair
	for i, path := range x.Paths {
		items := itemsOf(events(x, path))
		for to := range items {
			for from := range to {
				if items[from] == items[to] {
					l = append(l, api.LaPair{Path: i, From: from, To: to})
				}
			}
		}
	}
	return l
}

// someProof returns a proof that is accepted, of pairs taken at random.
func someProof(r *rand.Rand, x api.LaTask) []api.LaPair {
	pairs := allPairs(x)
	r.Shuffle(len(pairs), func(i, k int) { pairs[i], pairs[k] = pairs[k], pairs[i] })
	var proof []api.LaPair
	for _, p := range pairs[:r.IntN(len(pairs)+1)] {
		if !slices.ContainsFunc(proof, func(q api.LaPair) bool { return !fits(p, q) }) {
			proof = append(proof, p)
		}
	}
	return proof
}

// greatest is D and R of the chapter, for the items of a path.
type greatest struct {
	items []int
	d, r  map[[2]int]int
}

func (g greatest) D(x, y int) int {
	if x == y {
		return 0
	}
	if _, ok := g.d[[2]int{x, y}]; !ok {
		best := g.D(x, y-1) + 1
		for z := x; z < y; z++ {
			if g.items[z] == g.items[y] {
				best = max(best, g.D(x, z)+g.R(z, y))
			}
		}
		g.d[[2]int{x, y}] = best
	}
	return g.d[[2]int{x, y}]
}

// under is what is rounded up to R.
func (g greatest) under(z, y int) int {
	best := g.D(z, y-1) + 1
	for w := z + 1; w < y; w++ {
		if g.items[w] == g.items[y] {
			best = max(best, g.D(z, w)+g.R(w, y))
		}
	}
	return best
}

func (g greatest) R(z, y int) int {
	if _, ok := g.r[[2]int{z, y}]; !ok {
		g.r[[2]int{z, y}] = up(g.under(z, y))
	}
	return g.r[[2]int{z, y}]
}

// pairs returns the pairs of two events.
func (g greatest) pairs(x, y int) []api.LaPair {
	if x == y {
		return nil
	}
	if g.D(x, y) == g.D(x, y-1)+1 {
		return g.pairs(x, y-1)
	}
	for z := x; ; z++ {
		if g.items[z] == g.items[y] && g.D(x, y) == g.D(x, z)+g.R(z, y) {
			return slices.Concat(g.pairs(x, z), []api.LaPair{in(z, y)}, g.within(z, y))
		}
	}
}

// within returns the pairs within a pair.
func (g greatest) within(z, y int) []api.LaPair {
	if g.under(z, y) == g.D(z, y-1)+1 {
		return g.pairs(z, y-1)
	}
	for w := z + 1; ; w++ {
		if g.items[w] == g.items[y] && g.under(z, y) == g.D(z, w)+g.R(w, y) {
			return slices.Concat(g.pairs(z, w), []api.LaPair{in(w, y)}, g.within(w, y))
		}
	}
}

// proofByDefinition returns the proof of a task, and its bound.
func proofByDefinition(x api.LaTask) ([]api.LaPair, int) {
	var proof []api.LaPair
	all := 0
	for i, path := range x.Paths {
		g := greatest{itemsOf(events(x, path)), map[[2]int]int{}, map[[2]int]int{}}
		last := len(g.items) - 1
		for _, p := range g.pairs(0, last) {
			proof = append(proof, api.LaPair{Path: i, From: p.From, To: p.To})
		}
		all += g.D(0, last) * path.Count
	}
	slices.SortFunc(proof, func(a, b api.LaPair) int {
		return cmp.Or(a.Path-b.Path, a.From-b.From, b.To-a.To)
	})
	return proof, all
}

// P6.3: the chapter's examples, and a few tasks more.
func TestBound(t *testing.T) {
	straight := api.LaTask{Orders: []api.LaOrder{{Op: api.OrPrint, Next: 1}, {}}, Data: 1, Lines: 1, Paths: []api.LaPath{{Orders: []int{0, 1}, Count: 9}}}
	alone := example()
	alone.Paths[0].Orders = []int{1}
	none := example()
	none.Paths = nil
	two := example()
	two.Paths = append(two.Paths, two.Paths[0])
	two.Paths[1].Count = 1
	for i, c := range []struct {
		x     api.LaTask
		proof []api.LaPair
		bound int
	}{
		{example(), []api.LaPair{in(0, 5), in(2, 4)}, 320},
		{product(), []api.LaPair{in(0, 6), in(2, 5), in(2, 3), in(3, 5)}, 480},
		{straight, nil, 18},
		{alone, nil, 0},
		{none, nil, 0},
		{two, []api.LaPair{in(0, 5), in(2, 4), {Path: 1, From: 0, To: 5}, {Path: 1, From: 2, To: 4}}, 352},
	} {
		proof, n, e := layout.Bound(c.x)
		if !slices.Equal(proof, c.proof) || n != c.bound || e != api.OK {
			t.Errorf("%d: Bound = %v, %d, %d", i, proof, n, e)
		}
	}
}

// P6.3, P6.6: the proof of a task by definition; it is accepted, with its bound.
func TestBoundByDefinition(t *testing.T) {
	r := rand.New(rand.NewPCG(11, 6))
	longest := 0
	for i := range 400 {
		x := someTask(r)
		if i%2 == 0 {
			x = some(r, 3, 2, 1, 4, 24) // Items come by again and again.
		}
		want, b := proofByDefinition(x)
		proof, n := bound(t, x)
		if !slices.Equal(proof, want) || n != b {
			t.Fatalf("Bound of %v = %v, %d; not %v, %d", x, proof, n, want, b)
		}
		if m, e := layout.Accept(x, proof); m != n || e != api.OK {
			t.Fatalf("Accept of %v, %v = %d, %d; not %d", x, proof, m, e, n)
		}
		longest = max(longest, len(proof))
	}
	if longest < 100 {
		t.Errorf("the longest proof has only %d pairs", longest)
	}
}

// P6.3: the longest paths, of an order that is always the next one: the proof is not too long to be accepted.
func TestLongestProof(t *testing.T) {
	for op, each := range map[int]int{api.OrMove: 32, api.OrMul: 48, api.OrTest: 16} {
		x := api.LaTask{Orders: []api.LaOrder{{Op: op}}, Data: 1, Lines: 1}
		for range 8 {
			x.Paths = append(x.Paths, api.LaPath{Orders: make([]int, 24), Count: 1000})
		}
		proof, n := bound(t, x)
		if m, e := layout.Accept(x, proof); len(proof) > 1500 || n != 8*1000*23*each || m != n || e != api.OK {
			t.Errorf("%d: %d pairs, %d; Accept = %d, %d", op, len(proof), n, m, e)
		}
	}
}

// P6.3: the errors of proofs, and which one comes first.
func TestAcceptErrors(t *testing.T) {
	// The items of its paths are 0, 2, 1, 3, 0, 2, 1, 3, 0, and 0.
	cycle := api.LaTask{
		Orders: []api.LaOrder{{Op: api.OrTest, From: 0, To: 1, Next: 1}, {Op: api.OrPrint, From: 1, Next: 0}},
		Data:   2,
		Lines:  1,
		Paths:  []api.LaPath{{Orders: []int{0, 1, 0, 1, 0}, Count: 1}, {Orders: []int{0}, Count: 1}},
	}
	second := func(from, to int) api.LaPair { return api.LaPair{Path: 1, From: from, To: to} }
	for i, c := range []struct {
		proof []api.LaPair
		e     api.Errno
	}{
		{make([]api.LaPair, 1501), api.ErrLong},
		{slices.Repeat([]api.LaPair{{Path: -1}}, 1501), api.ErrLong},
		{slices.Repeat([]api.LaPair{{Path: -1}}, 1500), api.ErrNone},
		{slices.Repeat([]api.LaPair{in(0, 4)}, 1500), api.LaErrCross},
		{[]api.LaPair{{Path: -1, From: 0, To: 4}}, api.ErrNone},
		{[]api.LaPair{{Path: 2, From: 0, To: 4}}, api.ErrNone},
		{[]api.LaPair{{Path: math.MaxInt, From: 0, To: 4}}, api.ErrNone},
		{[]api.LaPair{{Path: math.MinInt, From: 0, To: 4}}, api.ErrNone},
		{[]api.LaPair{in(-1, 4)}, api.ErrNone},
		{[]api.LaPair{in(0, 9)}, api.ErrNone},
		{[]api.LaPair{in(9, 8)}, api.ErrNone},
		{[]api.LaPair{in(4, -1)}, api.ErrNone},
		{[]api.LaPair{in(math.MinInt, math.MaxInt)}, api.ErrNone},
		{[]api.LaPair{second(0, 1)}, api.ErrNone},
		{[]api.LaPair{second(0, 0)}, api.ErrArg},
		{[]api.LaPair{in(4, 4)}, api.ErrArg},
		{[]api.LaPair{in(4, 0)}, api.ErrArg},
		{[]api.LaPair{in(0, 5)}, api.ErrArg},
		{[]api.LaPair{in(1, 2)}, api.ErrArg},
		// The first pair with an error decides, and before that two that cross each other.
		{[]api.LaPair{in(0, 4), in(0, 5), in(0, 9)}, api.ErrArg},
		{[]api.LaPair{in(0, 4), in(0, 9), in(0, 5)}, api.ErrNone},
		{[]api.LaPair{in(0, 4), in(0, 4), in(0, 5)}, api.ErrArg},
		{[]api.LaPair{in(0, 4), in(0, 4)}, api.LaErrCross},
		{[]api.LaPair{in(0, 8), in(4, 8), in(0, 4), in(0, 8)}, api.LaErrCross},
		{[]api.LaPair{in(0, 4), in(1, 5)}, api.LaErrCross},
		{[]api.LaPair{in(1, 5), in(0, 4)}, api.LaErrCross},
		{[]api.LaPair{in(3, 7), in(4, 8)}, api.LaErrCross},
		{[]api.LaPair{in(0, 8), in(2, 6), in(1, 5)}, api.LaErrCross},
		// The same event can begin and end pairs.
		{[]api.LaPair{in(0, 8), in(4, 8), in(0, 4)}, api.OK},
		{[]api.LaPair{in(0, 4), in(4, 8)}, api.OK},
		{nil, api.OK},
	} {
		n, e := layout.Accept(cycle, c.proof)
		if e != c.e || e != api.OK && n != 0 {
			t.Errorf("%d: Accept = %d, %d", i, n, e)
		}
	}
	// Pairs of two paths do not cross each other.
	cycle.Paths[1] = cycle.Paths[0]
	if n, e := layout.Accept(cycle, []api.LaPair{in(0, 4), second(1, 5), second(0, 8), in(0, 8)}); n != 64 || e != api.OK {
		t.Errorf("Accept = %d, %d", n, e)
	}
}

// P6.3: the values of the chapter's examples; a pair can be in any place of the list.
func TestAccept(t *testing.T) {
	for i, c := range []struct {
		x     api.LaTask
		proof []api.LaPair
		n     int
		e     api.Errno
	}{
		{example(), []api.LaPair{in(2, 4)}, 190, api.OK},
		{example(), []api.LaPair{in(0, 5)}, 160, api.OK},
		{example(), []api.LaPair{in(0, 4)}, 0, api.ErrArg},
		{example(), []api.LaPair{in(0, 5), in(2, 4)}, 320, api.OK},
		{example(), []api.LaPair{in(2, 4), in(0, 5)}, 320, api.OK},
		{example(), nil, 50, api.OK},
		{product(), []api.LaPair{in(2, 3), in(3, 5)}, 350, api.OK},
		{product(), []api.LaPair{in(3, 5), in(2, 3), in(2, 5)}, 350, api.OK},
		{product(), []api.LaPair{in(3, 5), in(0, 6), in(2, 3)}, 480, api.OK},
	} {
		if n, e := layout.Accept(c.x, c.proof); n != c.n || e != c.e {
			t.Errorf("%d: Accept = %d, %d", i, n, e)
		}
	}
}

// P6.3: proofs made at random, by definition; those whose pairs do not fit are told.
func TestAcceptByDefinition(t *testing.T) {
	r := rand.New(rand.NewPCG(12, 6))
	crossed := 0
	for range 1500 {
		x := some(r, 5, 3, 2, 4, 12)
		proof := someProof(r, x)
		if pairs := allPairs(x); len(pairs) > 0 && r.IntN(2) == 0 {
			proof = append(proof, pairs[r.IntN(len(pairs))])
		}
		n, e := layout.Accept(x, proof)
		if !fitAll(proof) {
			crossed++
			if n != 0 || e != api.LaErrCross {
				t.Fatalf("Accept of %v, %v = %d, %d", x, proof, n, e)
			}
			continue
		}
		if want := boundByDefinition(x, proof); n != want || e != api.OK {
			t.Fatalf("Accept of %v, %v = %d, %d; not %d", x, proof, n, e, want)
		}
	}
	if crossed < 100 {
		t.Errorf("only %d proofs are not as stated", crossed)
	}
}

// P6.6: no layout takes less than the bound of any proof, and no proof has a greater bound than that of the task.
func TestNoLayoutTakesLess(t *testing.T) {
	r := rand.New(rand.NewPCG(13, 6))
	met := 0
	for range 600 {
		x := some(r, 4, 3, 2, 3, 10)
		_, most := bound(t, x)
		good := must[[]int](t)(layout.Good(x))
		for range 20 {
			n := must[int](t)(layout.Accept(x, someProof(r, x)))
			if n > most {
				t.Fatalf("%v has a proof of %d, above %d", x, n, most)
			}
			if c := cost(t, x, someLayout(r, x)); c < most {
				t.Fatalf("%v takes %d, below %d", x, c, most)
			}
		}
		if c := cost(t, x, good); c < most {
			t.Fatalf("%v takes %d, below %d", x, c, most)
		} else if c == most {
			met++
		}
	}
	if met < 100 {
		t.Errorf("only %d bounds are met", met)
	}
}

// P6.6: all proofs of small tasks.
func TestAllProofs(t *testing.T) {
	r := rand.New(rand.NewPCG(14, 6))
	for tasks := 0; tasks < 200; {
		x := some(r, 2, 2, 1, 1, 5)
		pairs := allPairs(x)
		if len(pairs) < 3 || len(pairs) > 11 {
			continue
		}
		tasks++
		_, most := bound(t, x)
		reached := false
		for mask := range 1 << len(pairs) {
			var proof []api.LaPair
			for i, p := range pairs {
				if mask>>i&1 == 1 {
					proof = append(proof, p)
				}
			}
			if n, e := layout.Accept(x, proof); e == api.OK {
				reached = reached || n == most
				if n > most {
					t.Fatalf("%v has the proof %v of %d, above %d", x, proof, n, most)
				}
			}
		}
		if !reached {
			t.Fatalf("no proof of %v has the bound %d", x, most)
		}
	}
}
