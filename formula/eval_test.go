package formula_test

import (
	"math"
	"math/big"
	"math/rand/v2"
	"testing"

	"quicksilver/api"
	"quicksilver/formula"
)

// P7.4: the chapter's example, and each operation with words at their ends.
func TestEval(t *testing.T) {
	add, sub, mul := formulaWith("a b", v(0), v(1), op(3)), formulaWith("a b", v(0), v(1), op(4)), formulaWith("a b", v(0), v(1), op(5))
	for i, x := range []struct {
		f     api.FoFormula
		words []int
		want  int
	}{
		{example(), []int{half, half}, 5242880},
		{formulaWith("a", v(0)), []int{2*one - 1}, 2*one - 1},
		{add, []int{3, 4}, 7}, {add, []int{half, half}, one}, {add, []int{2*one - 1, 1}, 0}, {add, []int{2*one - 1, 2*one - 1}, 2*one - 2}, {add, []int{one, one}, 0},
		{sub, []int{5, 3}, 2}, {sub, []int{3, 5}, 2*one - 2}, {sub, []int{0, 1}, 2*one - 1}, {sub, []int{one, 1}, one - 1}, {sub, []int{0, one}, one},
		{mul, []int{half, half}, half / 2}, {mul, []int{half, 2*one - 1}, 2*one - 1}, {mul, []int{half, 1}, 0}, {mul, []int{1, 2*one - 1}, 2*one - 1}, {mul, []int{2*one - 1, 2*one - 1}, 0}, {mul, []int{one, one}, one}, {mul, []int{one, half}, 2*one - half}, {mul, []int{one - 1, one - 1}, one - 2},
		// A constant is rounded once, and what comes after it by the machine.
		{formulaWith("a", c(1, 1), v(0), op(5)), []int{half}, 419430}, {formulaWith("a", c(1, 1), v(0), op(5)), []int{2*one - half}, 2*one - 419431},
		// What overflows goes on as the machine does.
		{formulaWith("a b", v(0), v(1), op(3), v(1), op(4)), []int{one - 1, one - 1}, one - 1},
	} {
		if got := eval(t, x.f, x.words); got != x.want {
			t.Errorf("%d: Eval = %d; not %d", i, got, x.want)
		}
	}
}

// P7.4: words, and how many of them.
func TestEvalErrors(t *testing.T) {
	f := formulaWith("a b", v(0), v(1), op(3))
	for i, x := range []struct {
		f     api.FoFormula
		words []int
		e     api.Errno
	}{
		{f, nil, api.ErrArg}, {f, []int{1}, api.ErrArg}, {f, []int{-1}, api.ErrArg}, {f, []int{1, 2, 3}, api.ErrArg}, {f, make([]int, 1000), api.ErrArg},
		{f, []int{-1, 0}, api.ErrRange}, {f, []int{0, -1}, api.ErrRange}, {f, []int{2 * one, 0}, api.ErrRange}, {f, []int{0, 2 * one}, api.ErrRange}, {f, []int{0, math.MaxInt}, api.ErrRange}, {f, []int{math.MinInt, 0}, api.ErrRange},
		{f, []int{2*one - 1, 0}, api.OK}, {formulaWith("", c(5, 1)), nil, api.OK}, {formulaWith("", c(5, 1)), []int{}, api.OK}, {formulaWith("", c(5, 1)), []int{0}, api.ErrArg},
	} {
		if got, e := formula.Eval(x.f, x.words); e != x.e || e != api.OK && got != 0 {
			t.Errorf("%d: Eval = %d, %d", i, got, e)
		}
	}
}

// P7.4: the words of constants are the nearest ones. (P7.5: their errors are 0 if they are exact, and 1 otherwise.)
func TestConstants(t *testing.T) {
	words := map[api.FoNode]int{c(0, 1): 0, c(5, 1): half, c(1, 1): 838861, c(9, 1): 7549747, c(25, 2): half / 2, c(1, 6): 8, c(999999, 6): 8388600, c(15625, 6): 131072, c(3, 6): 25}
	for n, want := range words {
		if got := eval(t, formulaWith("", n), nil); got != want {
			t.Errorf("Eval of %v = %d; not %d", n, got, want)
		}
	}
	ten := 1
	for places := 1; places <= 6; places++ {
		ten *= 10
		for num := 1; num < ten; num += 1 + ten/1000 {
			if places > 1 && num%10 == 0 {
				continue
			}
			f := formulaWith("", c(num, places))
			got := eval(t, f, nil)
			value := big.NewRat(int64(num)*one, int64(ten))
			lo, hi := new(big.Rat).Sub(value, big.NewRat(1, 2)), new(big.Rat).Add(value, big.NewRat(1, 2))
			if units(got).Cmp(lo) <= 0 || units(got).Cmp(hi) > 0 {
				t.Fatalf("Eval of %v = %d, which is not near %v", f, got, value)
			}
			want := api.FoRange{Words: api.Span{Lo: got, Hi: got}, Error: 1}
			if value.IsInt() {
				want.Error = 0
			}
			if r, at, e := formula.Range(f, nil); r != want || at != 0 || e != api.OK {
				t.Fatalf("Range of %v = %v, %d, %d; not %v", f, r, at, e, want)
			}
		}
	}
}

// P7.4: Eval against the machine, which does one order after the other.
func TestEvalAsTheMachine(t *testing.T) {
	r := rand.New(rand.NewPCG(7, 7))
	for range 800 {
		x := smallTree(r, 9)
		given := map[string]int{}
		for _, name := range someNames() {
			given[name] = someWord(r)
		}
		f := x.formula()
		want := x.comes(t, given)
		if got := eval(t, f, wordsOf(f.Vars, given)); got != want {
			t.Fatalf("Eval of %v with %v = %d; not %d", f, given, got, want)
		}
	}
}
