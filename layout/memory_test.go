package layout_test

import (
	"math"
	"math/rand/v2"
	"reflect"
	"slices"
	"testing"

	"quicksilver/api"
	"quicksilver/layout"
)

// clonedTask returns a task that shares no memory.
func clonedTask(x api.LaTask) api.LaTask {
	x.Orders, x.Paths = slices.Clone(x.Orders), slices.Clone(x.Paths)
	for i := range x.Paths {
		x.Paths[i].Orders = slices.Clone(x.Paths[i].Orders)
	}
	return x
}

// wild returns a number that may be anything, but is often one from 0 and below end.
func wild(r *rand.Rand, end int) int {
	strange := []int{math.MinInt, math.MaxInt, r.Int(), -1, end, 0}
	if i := r.IntN(40); i < len(strange) || end < 1 {
		return strange[i%len(strange)]
	}
	return r.IntN(end)
}

// wildTask returns what is a task at times.
func wildTask(r *rand.Rand) api.LaTask {
	x := some(r, 5, 4, 8, 4, 12)
	switch r.IntN(6) {
	case 0:
		x.Data, x.Lines = wild(r, 17), wild(r, 9)
	case 1:
		x.Orders = slices.Repeat(x.Orders, r.IntN(8))
	case 2:
		x.Paths = slices.Repeat(x.Paths, r.IntN(4))
	case 3:
		x.Orders[r.IntN(len(x.Orders))] = api.LaOrder{Op: wild(r, 8), From: wild(r, x.Data), To: wild(r, x.Data), Next: wild(r, len(x.Orders))}
	}
	if len(x.Paths) > 0 && r.IntN(4) == 0 {
		path := &x.Paths[r.IntN(len(x.Paths))]
		path.Count = wild(r, 1001)
		path.Orders[r.IntN(len(path.Orders))] = wild(r, len(x.Orders))
	}
	return x
}

// wildNumbers returns numbers, most of them from 0 and below end, and often as many as stated.
func wildNumbers(r *rand.Rand, many, end int) []int {
	var l []int
	for range max(0, min(many+max(0, r.IntN(12)-10), 50)) {
		l = append(l, wild(r, end))
	}
	return l
}

// wildProof returns what is a proof at times.
func wildProof(r *rand.Rand, x api.LaTask) []api.LaPair {
	var proof []api.LaPair
	if errorOf(x) == api.OK {
		proof = someProof(r, x)
	}
	if r.IntN(2) == 0 {
		proof = append(proof, api.LaPair{Path: wild(r, len(x.Paths)), From: wild(r, 5), To: wild(r, 9)})
	}
	if r.IntN(30) == 0 {
		proof = slices.Grow(proof, 2000)[:r.IntN(2000)]
	}
	return proof
}

// P6.13, P1: any arguments are accepted, and not modified; with an error all other results are zero.
func TestAnyArguments(t *testing.T) {
	r := rand.New(rand.NewPCG(41, 6))
	met := map[api.Errno]int{}
	for range 4000 {
		x := wildTask(r)
		l, words, proof := wildNumbers(r, items(x), 16*min(8, max(1, x.Lines))), wildNumbers(r, x.Data, 1<<24), wildProof(r, x)
		if errorOf(x) == api.OK && r.IntN(2) == 0 {
			l = someLayout(r, x)
		}
		before, l0, words0, proof0 := clonedTask(x), slices.Clone(l), slices.Clone(words), slices.Clone(proof)
		part, at, e := layout.Check(x)
		n, e1 := layout.Cost(x, l)
		pairs, m, e2 := layout.Bound(x)
		k, e3 := layout.Accept(x, proof)
		good, e4 := layout.Good(x)
		best, e5 := layout.Best(x)
		store, e6 := layout.Lay(x, l, words)
		if !reflect.DeepEqual(x, before) || !slices.Equal(l, l0) || !slices.Equal(words, words0) || !slices.Equal(proof, proof0) {
			t.Fatalf("%v became %v, or other arguments did", before, x)
		}
		if (e == api.OK) != (part == 0) || part == 0 && at != 0 || e2 != e || e4 != e {
			t.Fatalf("Check of %v = %d, %d, %d; %d, %d", x, part, at, e, e2, e4)
		}
		zero := (e1 == api.OK || n == 0) && (e2 == api.OK || m == 0 && len(pairs) == 0) && (e3 == api.OK || k == 0) && (e6 == api.OK) == (len(store) == 128)
		lengths := len(good) == 0 || len(good) == items(x)
		if !zero || !lengths || (e4 == api.OK) != (len(good) > 0) || (e5 == api.OK) != (len(best) > 0) {
			t.Fatalf("results of %v: %d, %v, %d, %d, %v, %v, %v", x, n, pairs, m, k, good, best, store)
		}
		met[e]++
		met[e3]++
		met[e6]++
	}
	for _, e := range []api.Errno{api.OK, api.ErrLong, api.ErrRange, api.ErrNone, api.ErrTwice, api.ErrArg, api.LaErrCross} {
		if met[e] < 30 {
			t.Errorf("the error %d is met only %d times", e, met[e])
		}
	}
}

// P6.13: results are new memory, each of its own.
func TestNewMemory(t *testing.T) {
	x, l, words := example(), []int{0, 3, 1, 2}, []int{5, 7}
	store := lay(t, x, l, words)
	good := must[[]int](t)(layout.Good(x))
	best := must[[]int](t)(layout.Best(x))
	proof, _ := bound(t, x)
	for _, result := range [][]int{store, good, best} {
		result = result[:cap(result)]
		for i := range result {
			result[i] = 99
		}
	}
	proof = proof[:cap(proof)]
	clear(proof)
	if !reflect.DeepEqual(x, example()) || !slices.Equal(l, []int{0, 3, 1, 2}) || !slices.Equal(words, []int{5, 7}) {
		t.Errorf("arguments are shared: %v, %v, %v", x, l, words)
	}
	again, _ := bound(t, x)
	if lay(t, x, l, words)[0] != 4210947 || must[[]int](t)(layout.Good(x))[1] != 3 || must[[]int](t)(layout.Best(x))[1] != 1 || again[0] != in(0, 5) {
		t.Error("results are kept")
	}
}

// P6.13: a proof is not sorted where it is, nor is anything written behind it.
func TestProofStays(t *testing.T) {
	proof := append(make([]api.LaPair, 0, 9), in(2, 4), in(0, 5), in(1, 2))
	n, e := layout.Accept(example(), proof[:2])
	if n != 320 || e != api.OK || !slices.Equal(proof, []api.LaPair{in(2, 4), in(0, 5), in(1, 2)}) {
		t.Errorf("Accept = %d, %d; %v", n, e, proof)
	}
}
