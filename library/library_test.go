package library_test

import (
	"fmt"
	"math"
	"math/rand/v2"
	"slices"
	"testing"

	"quicksilver/api"
	"quicksilver/library"
	"quicksilver/order"
)

const one = 1 << 23

// op is an order.
func op(what, from, to, next int) api.OrOrder {
	return api.OrOrder{Op: what, From: from, To: to, Next: next}
}

// word is the word of an order, by its definition.
func word(o api.OrOrder) int { return o.Op<<21 + o.From<<14 + o.To<<7 + o.Next }

// same says whether two values have the same numbers and strings; nil and empty are the same.
func same(a, b any) bool { return fmt.Sprint(a) == fmt.Sprint(b) }

// argsOf returns how many arguments a kind takes.
func argsOf(kind int) int {
	if kind == api.LiQuot {
		return 2
	}
	return 1
}

// routine is Code without an error.
func routine(t *testing.T, kind int) api.LiCode {
	t.Helper()
	c, e := library.Code(kind)
	if e != api.OK {
		t.Fatalf("Code of %d: %d", kind, e)
	}
	return c
}

// value is Value without an error.
func value(t *testing.T, kind int, args ...int) int {
	t.Helper()
	n, e := library.Value(kind, args)
	if e != api.OK {
		t.Fatalf("Value of %d with %v: %d", kind, args, e)
	}
	return n
}

// example is C of the chapter's examples.
func example(t *testing.T) []api.LiEntry {
	t.Helper()
	return []api.LiEntry{{Name: "root", Version: 1, Code: routine(t, api.LiRoot)}, {Name: "quot", Version: 3, Code: routine(t, api.LiQuot)}}
}

// routineByTable is a second reading of the chapter's table of a routine.
func routineByTable(kind int) api.LiCode {
	a := map[int]int{api.LiRoot: 6, api.LiQuot: 6, api.LiCube: 7}[kind]
	at := map[string]int{}
	c := api.LiCode{Words: make([]int, a+8), Masks: slices.Repeat([]int{7}, a+8), Exit: a + 8}
	for _, name := range []string{"exit", "half", "one", "first", "second", "result", "try", "step", "test"} {
		if name == "second" && kind != api.LiQuot {
			continue
		}
		at[name] = len(c.Words)
		c.Words = append(c.Words, map[string]int{"half": 4194304, "one": 1}[name])
		c.Masks = append(c.Masks, 0)
	}
	half, result, try, step, test := at["half"], at["result"], at["try"], at["step"], at["test"]
	by := try
	if kind == api.LiQuot {
		by = at["second"]
	}
	orders := map[int]api.OrOrder{
		0:     op(api.OrMove, half, step, 1),
		1:     op(api.OrSub, result, result, 2),
		2:     op(api.OrMove, result, try, 3),
		3:     op(api.OrAdd, step, try, 4),
		4:     op(api.OrMove, try, test, 5),
		5:     op(api.OrMul, by, test, 6),
		a:     op(api.OrSub, at["first"], test, a+1),
		a + 1: op(api.OrSub, at["one"], test, a+2),
		a + 2: op(api.OrTest, test, a+3, a+4),
		a + 3: op(api.OrMove, try, result, a+4),
		a + 4: op(api.OrMul, half, step, a+5),
		a + 5: op(api.OrMove, step, test, a+6),
		a + 6: op(api.OrSub, at["one"], test, a+7),
		a + 7: op(api.OrTest, test, a+8, 2),
	}
	if kind == api.LiCube {
		orders[6] = op(api.OrMul, try, test, 7)
	}
	for i, o := range orders {
		c.Words[i] = word(o)
	}
	c.Result, c.Args = result, []int{at["first"]}
	if kind == api.LiQuot {
		c.Args = append(c.Args, at["second"])
	}
	return c
}

// P8.1: the routines, by the chapter's table and its example.
func TestCode(t *testing.T) {
	for kind := api.LiRoot; kind <= api.LiCube; kind++ {
		if c := routine(t, kind); !same(c, routineByTable(kind)) {
			t.Errorf("Code of %d = %v; not %v", kind, c, routineByTable(kind))
		}
	}
	if c := routine(t, api.LiRoot); len(c.Words) != 22 || c.Exit != 14 || c.Result != 18 || !slices.Equal(c.Args, []int{17}) {
		t.Errorf("Code of LiRoot = %v", c)
	}
	for _, kind := range []int{0, 4, -1, math.MinInt, math.MaxInt} {
		if c, e := library.Code(kind); e != api.ErrArg || !same(c, api.LiCode{}) {
			t.Errorf("Code of %d = %v, %d", kind, c, e)
		}
	}
}

// P8.1: what the orders of a routine have to be by order.Decode, so that words and table agree.
func TestCodeAsOrders(t *testing.T) {
	o, e := order.Decode(routine(t, api.LiQuot).Words[5])
	if o != op(api.OrMul, 18, 22, 6) || e != api.OK {
		t.Errorf("the order at 5 is %v, %d", o, e)
	}
}

// passes is the test of a kind, by its definition.
func passes(kind, t int, args []int) bool {
	product := func(a, b int) int { return int(math.Floor(float64(a) * float64(b) / one)) }
	switch kind {
	case api.LiRoot:
		return product(t, t) <= args[0]
	case api.LiQuot:
		return product(t, args[1]) <= args[0]
	}
	return product(product(t, t), t) <= args[0]
}

// someNumber returns a number below 1, often a strange one.
func someNumber(r *rand.Rand) int {
	switch r.IntN(6) {
	case 0:
		return r.IntN(20)
	case 1:
		return one - 1 - r.IntN(20)
	case 2:
		return min(one-1, max(0, 1<<r.IntN(23)+r.IntN(3)-1))
	case 3:
		// A square of a number, or one less: here a root changes.
		n := r.IntN(one)
		return max(0, n*n/one-r.IntN(2))
	}
	return r.IntN(one)
}

// someArgs returns arguments of a kind.
func someArgs(r *rand.Rand, kind int) []int {
	args := []int{someNumber(r)}
	if kind == api.LiQuot {
		args = append(args, someNumber(r))
	}
	return args
}

// P8.1: the chapter's examples, and ends.
func TestValue(t *testing.T) {
	for _, c := range []struct {
		kind, want int
		args       []int
	}{
		{api.LiRoot, 4194304, []int{2097152}}, {api.LiQuot, 4194305, []int{2097152, 4194304}},
		{api.LiQuot, 8388607, []int{0, 0}}, {api.LiRoot, 2896, []int{0}},
		{api.LiRoot, one - 1, []int{one - 1}}, {api.LiCube, one - 1, []int{one - 1}}, {api.LiQuot, one - 1, []int{one - 1, 0}},
		{api.LiQuot, 1, []int{0, one - 1}}, {api.LiQuot, one - 1, []int{one - 1, one - 1}}, {api.LiQuot, one - 1, []int{one - 2, one - 1}}, {api.LiQuot, one - 2, []int{one - 3, one - 1}},
	} {
		if n := value(t, c.kind, c.args...); n != c.want {
			t.Errorf("Value of %d with %v = %d; not %d", c.kind, c.args, n, c.want)
		}
	}
}

// P8.1: values by the definition, of all numbers tried one by one.
func TestValueOfAll(t *testing.T) {
	r := rand.New(rand.NewPCG(8, 1))
	for kind := api.LiRoot; kind <= api.LiCube; kind++ {
		for range 8 {
			args := someArgs(r, kind)
			greatest := -1
			for n := range one {
				if passes(kind, n, args) {
					greatest = n
				}
			}
			if n := value(t, kind, args...); n != greatest {
				t.Errorf("Value of %d with %v = %d; not %d", kind, args, n, greatest)
			}
		}
	}
}

// P8.1: the value passes and no greater number does; Accept accepts it alone.
func TestAccept(t *testing.T) {
	r := rand.New(rand.NewPCG(8, 2))
	for range 60000 {
		kind := 1 + r.IntN(3)
		args := someArgs(r, kind)
		n := value(t, kind, args...)
		if n < 0 || n >= one || !passes(kind, n, args) || n < one-1 && passes(kind, n+1, args) {
			t.Fatalf("Value of %d with %v = %d", kind, args, n)
		}
		for _, word := range []int{n, n - 1, n + 1, -n - 1, n + one, n + 2*one, n - 2*one, n + 1<<32, r.IntN(one), math.MinInt, math.MaxInt} {
			if is, e := library.Accept(kind, args, word); is != (word == n) || e != api.OK {
				t.Fatalf("Accept of %d with %v and %d = %t, %d", kind, args, word, is, e)
			}
		}
	}
	if is, e := library.Accept(api.LiRoot, []int{2097152}, 4194303); is || e != api.OK {
		t.Errorf("Accept = %t, %d", is, e)
	}
}

// P8.1: the errors of Value and Accept, and which one comes first.
func TestValueErrors(t *testing.T) {
	for i, c := range []struct {
		kind int
		args []int
		e    api.Errno
	}{
		{0, []int{0}, api.ErrArg}, {4, []int{0}, api.ErrArg}, {-1, []int{-1}, api.ErrArg}, {math.MaxInt, nil, api.ErrArg}, {math.MinInt, make([]int, 9), api.ErrArg},
		{1, nil, api.ErrLong}, {1, []int{}, api.ErrLong}, {1, []int{0, 0}, api.ErrLong}, {1, []int{-1, -1}, api.ErrLong},
		{2, nil, api.ErrLong}, {2, []int{-1}, api.ErrLong}, {2, []int{0, 0, 0}, api.ErrLong},
		{3, nil, api.ErrLong}, {3, []int{0, one}, api.ErrLong}, {3, make([]int, 1000), api.ErrLong},
		{1, []int{-1}, api.ErrRange}, {1, []int{one}, api.ErrRange}, {1, []int{math.MinInt}, api.ErrRange}, {1, []int{math.MaxInt}, api.ErrRange},
		{2, []int{one, 0}, api.ErrRange}, {2, []int{0, one}, api.ErrRange}, {2, []int{-1, 0}, api.ErrRange}, {2, []int{0, -1}, api.ErrRange}, {2, []int{0, math.MaxInt}, api.ErrRange},
		{3, []int{one}, api.ErrRange}, {3, []int{-1}, api.ErrRange}, {3, []int{2*one - 1}, api.ErrRange},
	} {
		n, e := library.Value(c.kind, c.args)
		if n != 0 || e != c.e {
			t.Errorf("%d: Value = %d, %d", i, n, e)
		}
		for _, word := range []int{0, -1, one - 1} {
			if is, e := library.Accept(c.kind, c.args, word); is || e != c.e {
				t.Errorf("%d: Accept = %t, %d", i, is, e)
			}
		}
	}
}

// P8.8: how exact roots and quotients are, and that they grow with the first argument.
func TestExact(t *testing.T) {
	r := rand.New(rand.NewPCG(8, 8))
	for range 60000 {
		n, d := someNumber(r), someNumber(r)
		root, quot, cube := value(t, api.LiRoot, n), value(t, api.LiQuot, n, d), value(t, api.LiCube, n)
		if root*root >= one*(n+1) || (root+1)*(root+1) < one*(n+1) && root != one-1 {
			t.Fatalf("the root of %d is %d", n, root)
		}
		if quot*d >= one*(n+1) || (quot+1)*d < one*(n+1) && quot != one-1 {
			t.Fatalf("the quotient of %d and %d is %d", n, d, quot)
		}
		more := min(one-1, n+r.IntN(1+r.IntN(1000)))
		if value(t, api.LiRoot, more) < root || value(t, api.LiQuot, more, d) < quot || value(t, api.LiCube, more) < cube {
			t.Fatalf("%d comes to less than %d (with %d)", more, n, d)
		}
	}
}
