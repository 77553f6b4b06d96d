package formula_test

import (
	"math"
	"math/big"
	"math/rand/v2"
	"slices"
	"testing"

	"quicksilver/api"
	"quicksilver/formula"
)

const (
	least = 1 << 22
	most  = 1<<23 - 1
)

// fl is a floating number.
func fl(mant, exp int) api.FoFloat { return api.FoFloat{Mant: mant, Exp: exp} }

// power returns a power of 2.
func power(exp int) *big.Rat {
	size := new(big.Int).Lsh(big.NewInt(1), uint(max(exp, -exp)))
	x := new(big.Rat).SetInt(size)
	if exp < 0 {
		return x.Inv(x)
	}
	return x
}

// times returns n times 2 to the power of exp.
func times(n, exp int) *big.Rat { return new(big.Rat).Mul(units(n), power(exp)) }

// valueOf returns what a floating number is.
func valueOf(f api.FoFloat) *big.Rat { return times(f.Mant, f.Exp-23) }

// size returns the size of a number.
func size(x *big.Rat) *big.Rat { return new(big.Rat).Abs(x) }

// towards0 returns a number, rounded towards 0.
func towards0(x *big.Rat) int {
	n := floor(size(x))
	return n * x.Sign()
}

// made returns a number, made floating, by a second reading.
func made(x *big.Rat) (api.FoFloat, api.Errno) {
	if x.Sign() == 0 {
		return api.FoFloat{}, api.OK
	}
	exp := x.Num().BitLen() - x.Denom().BitLen() - 2 // It is greater than this.
	for size(x).Cmp(power(exp)) >= 0 {
		exp++
	}
	switch {
	case exp < -64:
		return api.FoFloat{}, api.OK
	case exp > 63:
		return api.FoFloat{}, api.FoErrBig
	}
	return fl(towards0(new(big.Rat).Mul(x, power(23-exp))), exp), api.OK
}

// P7.7: the chapter's examples, and the ends of all numbers.
func TestFloat(t *testing.T) {
	for i, x := range []struct {
		n, exp int
		want   api.FoFloat
		e      api.Errno
	}{
		{1, 0, fl(least, 1), api.OK}, {-3, 4, fl(-6291456, 6), api.OK}, {0, 9, fl(0, 0), api.OK},
		{most, 0, fl(most, 23), api.OK}, {-most, 0, fl(-most, 23), api.OK}, {least, 0, fl(least, 23), api.OK}, {least - 1, 0, fl(2*least-2, 22), api.OK},
		// Rounded towards 0.
		{1 << 23, 0, fl(least, 24), api.OK}, {1<<23 + 1, 0, fl(least, 24), api.OK}, {-1<<23 - 1, 0, fl(-least, 24), api.OK}, {1<<24 - 1, 0, fl(most, 24), api.OK}, {1 - 1<<24, 0, fl(-most, 24), api.OK}, {1<<46 - 1, 0, fl(most, 46), api.OK}, {1 - 1<<46, 0, fl(-most, 46), api.OK}, {1 << 46, 0, fl(least, 47), api.OK}, {-1 << 46, 0, fl(-least, 47), api.OK},
		// The ends of the exponents.
		{1, 62, fl(least, 63), api.OK}, {1, 63, fl(0, 0), api.FoErrBig}, {-1, 63, fl(0, 0), api.FoErrBig}, {1 << 46, 16, fl(least, 63), api.OK}, {1 << 46, 17, fl(0, 0), api.FoErrBig}, {1<<46 - 1, 17, fl(most, 63), api.OK}, {1, 200, fl(0, 0), api.FoErrBig}, {1 << 46, 200, fl(0, 0), api.FoErrBig},
		{1, -65, fl(least, -64), api.OK}, {1, -66, fl(0, 0), api.OK}, {3, -66, fl(6291456, -64), api.OK}, {3, -67, fl(0, 0), api.OK}, {-1, -66, fl(0, 0), api.OK}, {1 << 46, -111, fl(least, -64), api.OK}, {1<<46 - 1, -111, fl(0, 0), api.OK}, {1, -200, fl(0, 0), api.OK}, {1 << 46, -200, fl(0, 0), api.OK},
		{0, 0, fl(0, 0), api.OK}, {0, 200, fl(0, 0), api.OK}, {0, -200, fl(0, 0), api.OK},
		// Numbers that are not in their ranges, also where 0 comes out.
		{1<<46 + 1, 0, fl(0, 0), api.ErrRange}, {-1<<46 - 1, 0, fl(0, 0), api.ErrRange}, {math.MaxInt, 0, fl(0, 0), api.ErrRange}, {math.MinInt, 0, fl(0, 0), api.ErrRange}, {1<<46 + 1, 200, fl(0, 0), api.ErrRange}, {0, 201, fl(0, 0), api.ErrRange}, {0, -201, fl(0, 0), api.ErrRange}, {1, 201, fl(0, 0), api.ErrRange}, {1, math.MaxInt, fl(0, 0), api.ErrRange}, {1, math.MinInt, fl(0, 0), api.ErrRange},
	} {
		if y, e := formula.Float(x.n, x.exp); y != x.want || e != x.e {
			t.Errorf("%d: Float of %d, %d = %v, %d", i, x.n, x.exp, y, e)
		}
	}
}

// someNumber returns a number that can be made floating, of any length.
func someNumber(r *rand.Rand) int {
	n := r.IntN(1<<r.IntN(47) + 1)
	if r.IntN(4) == 0 {
		n = 1<<r.IntN(47) - r.IntN(2)
	}
	return n * (1 - 2*r.IntN(2))
}

// P7.7, P7.13: Float against a second reading, and how much it differs from the number.
func TestFloatAtRandom(t *testing.T) {
	r := rand.New(rand.NewPCG(7, 13))
	for range 8000 {
		n, exp := someNumber(r), r.IntN(401)-200
		if r.IntN(3) > 0 {
			exp = r.IntN(120) - 80
		}
		x := times(n, exp)
		want, f := made(x)
		got, e := formula.Float(n, exp)
		if got != want || e != f {
			t.Fatalf("Float of %d, %d = %v, %d; not %v, %d", n, exp, got, e, want, f)
		}
		differs := new(big.Rat).Sub(x, valueOf(got))
		bound := new(big.Rat).Mul(size(x), power(-22))
		if e == api.OK && n != 0 && size(x).Cmp(power(-65)) >= 0 && size(differs).Cmp(bound) >= 0 {
			t.Fatalf("Float of %d, %d = %v", n, exp, got)
		}
	}
}

// calc is what one step makes of two floating numbers.
func calc(op int, a, b api.FoFloat) (api.FoFloat, api.Errno) {
	after, at, e := formula.Calc([]api.FoFloat{a, b, fl(least, 7)}, []api.FoStep{{Op: op, A: 0, B: 1, To: 2}})
	if e != api.OK {
		if at != 0 || len(after) != 0 {
			return fl(-1, -1), e
		}
		return fl(0, 0), e
	}
	if len(after) != 3 || after[0] != a || after[1] != b || at != 0 {
		return fl(-2, -2), e
	}
	return after[2], e
}

// P7.8: the chapter's examples, and each operation.
func TestCalcSteps(t *testing.T) {
	one, three, tiny := fl(least, 1), fl(6291456, 2), fl(least, -23)
	zero := fl(0, 0)
	for i, x := range []struct {
		op         int
		a, b, want api.FoFloat
		e          api.Errno
	}{
		{3, one, fl(-6291456, 6), fl(-6160384, 6), api.OK}, {5, fl(-6160384, 6), fl(-6291456, 6), fl(4620288, 12), api.OK},
		{3, one, three, fl(least, 3), api.OK}, {4, one, three, fl(-least, 2), api.OK}, {4, three, one, fl(least, 2), api.OK}, {5, three, three, fl(4718592, 4), api.OK}, {6, three, one, three, api.OK},
		// A third is rounded towards 0, whatever its sign.
		{6, one, three, fl(5592405, -1), api.OK}, {6, fl(-least, 1), three, fl(-5592405, -1), api.OK}, {6, one, fl(-6291456, 2), fl(-5592405, -1), api.OK}, {6, fl(-least, 1), fl(-6291456, 2), fl(5592405, -1), api.OK},
		{6, fl(least, 0), fl(most, 0), fl(least, 0), api.OK}, {6, fl(most, 0), fl(least, 0), fl(most, 1), api.OK},
		// 0.
		{3, zero, three, three, api.OK}, {3, three, zero, three, api.OK}, {3, zero, zero, zero, api.OK}, {4, zero, three, fl(-6291456, 2), api.OK}, {4, three, zero, three, api.OK}, {4, zero, zero, zero, api.OK}, {5, zero, three, zero, api.OK}, {5, three, zero, zero, api.OK}, {5, zero, zero, zero, api.OK}, {6, zero, three, zero, api.OK}, {6, three, zero, zero, api.ErrZero}, {6, zero, zero, zero, api.ErrZero},
		{4, three, three, zero, api.OK}, {3, three, fl(-6291456, 2), zero, api.OK}, {3, zero, fl(least, -64), fl(least, -64), api.OK}, {3, zero, fl(most, 63), fl(most, 63), api.OK},
		// Small summands: rounded towards 0 themselves, and then in the sum.
		{3, one, tiny, one, api.OK}, {3, tiny, one, one, api.OK}, {4, one, tiny, fl(most, 0), api.OK}, {4, tiny, one, fl(-most, 0), api.OK}, {4, one, fl(least, -60), one, api.OK}, {4, one, fl(least, -51), fl(most, 0), api.OK}, {4, one, fl(least, -52), one, api.OK}, {4, one, fl(most, -52), one, api.OK}, {4, fl(least, 63), fl(most, -64), fl(least, 63), api.OK}, {3, fl(most, 63), fl(most, -64), fl(most, 63), api.OK}, {3, fl(most, 0), fl(least, -23), fl(most, 0), api.OK}, {3, fl(most, 0), fl(least, -22), fl(least, 1), api.OK},
		{4, fl(least, 10), fl(most, 9), fl(least, -13), api.OK},
		// The ends of the exponents.
		{3, fl(least, 63), fl(least, 63), zero, api.FoErrBig}, {4, fl(-least, 63), fl(least, 63), zero, api.FoErrBig}, {3, fl(most, 63), fl(-most, 62), fl(most, 62), api.OK}, {3, fl(least, 62), fl(least, 62), fl(least, 63), api.OK},
		{5, fl(least, 40), fl(least, 24), fl(least, 63), api.OK}, {5, fl(least, 40), fl(least, 25), zero, api.FoErrBig}, {5, fl(most, 40), fl(most, 24), zero, api.FoErrBig}, {5, fl(most, 40), fl(most, 23), fl(most-1, 63), api.OK}, {5, fl(-most, 63), fl(most, 63), zero, api.FoErrBig},
		{5, fl(least, -40), fl(least, -23), fl(least, -64), api.OK}, {5, fl(least, -40), fl(least, -24), zero, api.OK}, {5, fl(most, -40), fl(most, -24), fl(most-1, -64), api.OK}, {5, fl(least, -64), fl(least, -64), zero, api.OK},
		{6, fl(least, 63), fl(least, 0), zero, api.FoErrBig}, {6, fl(least, 63), fl(least, 1), fl(least, 63), api.OK}, {6, fl(least, 63), fl(most, 0), fl(least, 63), api.OK}, {6, fl(most, 63), fl(least, -64), zero, api.FoErrBig}, {6, fl(least, -64), fl(least, 1), fl(least, -64), api.OK}, {6, fl(least, -64), fl(least, 2), zero, api.OK}, {6, fl(least, -64), fl(most, 1), zero, api.OK}, {6, fl(least, -64), fl(most, 63), zero, api.OK},
		{4, fl(least+1, -64), fl(least, -64), zero, api.OK}, {4, fl(least, -63), fl(most, -64), zero, api.OK}, {4, fl(least, -63), fl(least, -64), fl(least, -64), api.OK},
	} {
		if y, e := calc(x.op, x.a, x.b); y != x.want || e != x.e {
			t.Errorf("%d: %v and %v with %d: %v, %d; not %v, %d", i, x.a, x.b, x.op, y, e, x.want, x.e)
		}
	}
	// The registers that a step takes and gets may be the same one.
	after, at, e := formula.Calc([]api.FoFloat{one, fl(-6291456, 6)}, []api.FoStep{{Op: 3, A: 0, B: 1, To: 0}, {Op: 5, A: 0, B: 1, To: 1}})
	if !slices.Equal(after, []api.FoFloat{fl(-6160384, 6), fl(4620288, 12)}) || at != 0 || e != api.OK {
		t.Errorf("Calc = %v, %d, %d", after, at, e)
	}
}

// P7.8: registers and steps, how many of them, and the first one with an error.
func TestCalcErrors(t *testing.T) {
	one, zero := fl(least, 1), fl(0, 0)
	add := api.FoStep{Op: api.FoAdd}
	regs := func(l ...api.FoFloat) []api.FoFloat { return l }
	steps := func(l ...api.FoStep) []api.FoStep { return l }
	for i, x := range []struct {
		regs  []api.FoFloat
		steps []api.FoStep
		at    int
		e     api.Errno
	}{
		{nil, nil, 0, api.ErrLong}, {nil, steps(add), 0, api.ErrLong}, {make([]api.FoFloat, 8), nil, 0, api.OK}, {make([]api.FoFloat, 9), nil, 0, api.ErrLong}, {regs(one), slices.Repeat(steps(add), 40), 0, api.OK}, {regs(fl(0, 1)), slices.Repeat(steps(api.FoStep{}), 41), 0, api.ErrLong}, {regs(one), slices.Repeat(steps(add), 41), 0, api.ErrLong},
		// Registers are examined before steps.
		{regs(one, fl(0, 1)), steps(api.FoStep{}), 1, api.ErrRange}, {regs(fl(1, 1), fl(0, 1)), nil, 0, api.ErrRange}, {regs(one, one, fl(0, -1)), nil, 2, api.ErrRange},
		// Steps: the first one with an error, and of its errors the one named first.
		{regs(one), steps(add, api.FoStep{}), 1, api.ErrArg}, {regs(one), steps(add, api.FoStep{Op: 2, A: 9}), 1, api.ErrArg}, {regs(one), steps(add, api.FoStep{Op: 7, To: -1}), 1, api.ErrArg}, {regs(one), steps(api.FoStep{Op: math.MaxInt}), 0, api.ErrArg}, {regs(one), steps(api.FoStep{Op: math.MinInt}), 0, api.ErrArg}, {regs(one), steps(api.FoStep{Op: 1}), 0, api.ErrArg}, {regs(one), steps(api.FoStep{Op: 3, A: 1}, api.FoStep{}), 0, api.ErrNone},
		{regs(one, one), steps(api.FoStep{Op: 3, A: 2}), 0, api.ErrNone}, {regs(one, one), steps(api.FoStep{Op: 4, B: 2}), 0, api.ErrNone}, {regs(one, one), steps(api.FoStep{Op: 5, To: 2}), 0, api.ErrNone}, {regs(one, one), steps(api.FoStep{Op: 6, A: -1}), 0, api.ErrNone}, {regs(one), steps(api.FoStep{Op: 6, B: -1}), 0, api.ErrNone}, {regs(one), steps(api.FoStep{Op: 6, To: -1}), 0, api.ErrNone}, {regs(one), steps(api.FoStep{Op: 6, A: math.MaxInt}), 0, api.ErrNone}, {regs(one), steps(api.FoStep{Op: 6, To: math.MinInt}), 0, api.ErrNone}, {regs(one, one), steps(api.FoStep{Op: 6, A: 1, B: 1, To: 1}), 0, api.OK},
		// All steps are examined before any is done.
		{regs(zero), steps(api.FoStep{Op: 6}, api.FoStep{Op: 3, A: 5}), 1, api.ErrNone}, {regs(fl(least, 63)), steps(add, api.FoStep{}), 1, api.ErrArg},
		{regs(zero), steps(add, api.FoStep{Op: 6}), 1, api.ErrZero}, {regs(one), steps(api.FoStep{Op: 4}, add, api.FoStep{Op: 6}), 2, api.ErrZero}, {regs(fl(least, 62)), steps(add, add), 1, api.FoErrBig}, {regs(fl(least, 63), zero), steps(add, api.FoStep{Op: 6, B: 1}), 0, api.FoErrBig}, {regs(fl(least, 63), zero), steps(api.FoStep{Op: 6, B: 1}, add), 0, api.ErrZero}, {regs(one), append(slices.Repeat(steps(api.FoStep{Op: 5}), 39), api.FoStep{Op: 2}), 39, api.ErrArg},
	} {
		if l, at, e := formula.Calc(x.regs, x.steps); at != x.at || e != x.e || e != api.OK && len(l) != 0 || e == api.OK && len(l) != len(x.regs) {
			t.Errorf("%d: Calc = %v, %d, %d; not %d, %d", i, l, at, e, x.at, x.e)
		}
	}
	for f, e := range map[api.FoFloat]api.Errno{
		fl(0, 0): api.OK, fl(0, 1): api.ErrRange, fl(0, -1): api.ErrRange, fl(0, 63): api.ErrRange,
		fl(least, 0): api.OK, fl(least-1, 0): api.ErrRange, fl(most, 0): api.OK, fl(most+1, 0): api.ErrRange, fl(-least, 0): api.OK, fl(1-least, 0): api.ErrRange, fl(-most, 0): api.OK, fl(-most-1, 0): api.ErrRange, fl(1, 0): api.ErrRange, fl(-1, 0): api.ErrRange,
		fl(least, 63): api.OK, fl(least, 64): api.ErrRange, fl(-most, -64): api.OK, fl(-most, -65): api.ErrRange,
		fl(math.MinInt, 0): api.ErrRange, fl(math.MaxInt, 0): api.ErrRange, fl(least, math.MinInt): api.ErrRange, fl(least, math.MaxInt): api.ErrRange,
	} {
		if _, at, got := formula.Calc([]api.FoFloat{{}, f}, nil); got != e || e != api.OK && at != 1 {
			t.Errorf("Calc with %v: %d, %d", f, at, got)
		}
	}
}

// someFloat returns a floating number, often one at an end, or near another one.
func someFloat(r *rand.Rand, near api.FoFloat) api.FoFloat {
	f := fl(least+r.IntN(most-least+1), r.IntN(128)-64)
	mants := []int{least, least + 1, most, most - 1}
	if r.IntN(3) == 0 {
		f.Mant = mants[r.IntN(4)]
	}
	if r.IntN(2) == 0 {
		f.Exp = min(63, max(-64, near.Exp+r.IntN(70)-35))
	}
	if r.IntN(3) == 0 {
		f.Exp = min(63, max(-64, near.Exp+r.IntN(3)-1))
	}
	if r.IntN(20) == 0 {
		return fl(0, 0)
	}
	if r.IntN(2) == 0 {
		f.Mant = -f.Mant
	}
	return f
}

// result returns what a step makes of two floating numbers, by a second reading, and what is exact.
func result(op int, a, b api.FoFloat) (f api.FoFloat, exact *big.Rat, e api.Errno) {
	x := new(big.Rat)
	exact = new(big.Rat)
	switch op {
	case api.FoMul:
		exact.Mul(valueOf(a), valueOf(b))
		x.Set(exact)
	case api.FoDiv:
		if b.Mant == 0 {
			return f, nil, api.ErrZero
		}
		exact.Quo(valueOf(a), valueOf(b))
		x = times(towards0(big.NewRat(int64(a.Mant)<<30, int64(b.Mant))), a.Exp-b.Exp-30)
	case api.FoSub:
		return result(api.FoAdd, a, fl(-b.Mant, b.Exp))
	default:
		exact.Add(valueOf(a), valueOf(b))
		switch {
		case a.Mant == 0:
			return b, exact, api.OK
		case b.Mant == 0:
			return a, exact, api.OK
		case b.Exp > a.Exp:
			a, b = b, a
		}
		moved := towards0(times(b.Mant, 30-(a.Exp-b.Exp)))
		x = times(a.Mant<<30+moved, a.Exp-53)
	}
	f, e = made(x)
	return f, exact, e
}

// P7.8, P7.13: steps against a second reading, and how much they differ from what is exact.
func TestStepsAtRandom(t *testing.T) {
	r := rand.New(rand.NewPCG(7, 14))
	met := map[api.Errno]int{}
	for range 8000 {
		a := someFloat(r, fl(0, 0))
		b := someFloat(r, a)
		for op := api.FoAdd; op <= api.FoDiv; op++ {
			want, exact, f := result(op, a, b)
			got, e := calc(op, a, b)
			if got != want || e != f {
				t.Fatalf("%v and %v with %d: %v, %d; not %v, %d", a, b, op, got, e, want, f)
			}
			met[e]++
			if e != api.OK {
				continue
			}
			differs := new(big.Rat).Sub(exact, valueOf(got))
			bound := new(big.Rat).Mul(size(exact), power(-21))
			if size(differs).Cmp(bound) > 0 && size(exact).Cmp(power(-64)) >= 0 {
				t.Fatalf("%v and %v with %d: %v, which is %v from what is exact", a, b, op, got, differs)
			}
		}
	}
	for _, e := range []api.Errno{api.OK, api.ErrZero, api.FoErrBig} {
		if met[e] < 300 {
			t.Errorf("the error %d is met only %d times", e, met[e])
		}
	}
}

// P7.14: the laws of floating numbers.
func TestFloatingLaws(t *testing.T) {
	r := rand.New(rand.NewPCG(7, 15))
	one, zero := fl(least, 1), fl(0, 0)
	for range 20000 {
		a := someFloat(r, zero)
		b := someFloat(r, a)
		for _, op := range []int{api.FoAdd, api.FoMul} {
			x, e := calc(op, a, b)
			y, f := calc(op, b, a)
			if x != y || e != f {
				t.Fatalf("%v and %v with %d: %v, %d; %v, %d", a, b, op, x, e, y, f)
			}
		}
		less, e1 := calc(api.FoSub, a, a)
		more, e2 := calc(api.FoAdd, a, zero)
		same, e3 := calc(api.FoMul, a, one)
		if less != zero || more != a || same != a || e1 != api.OK || e2 != api.OK || e3 != api.OK {
			t.Fatalf("%v: %v, %d; %v, %d; %v, %d", a, less, e1, more, e2, same, e3)
		}
	}
}

// P7.14: steps can be cut anywhere.
func TestStepsCut(t *testing.T) {
	r := rand.New(rand.NewPCG(7, 16))
	met := map[api.Errno]int{}
	for range 4000 {
		regs := make([]api.FoFloat, 1+r.IntN(8))
		for i := range regs {
			regs[i] = someFloat(r, fl(0, 0))
			regs[i].Exp /= 2
		}
		steps := make([]api.FoStep, r.IntN(41))
		for i := range steps {
			steps[i] = api.FoStep{Op: 3 + r.IntN(4), A: r.IntN(len(regs)), B: r.IntN(len(regs)), To: r.IntN(len(regs))}
		}
		want, at, e := formula.Calc(regs, steps)
		met[e]++
		cut := r.IntN(len(steps) + 1)
		got, k, f := formula.Calc(regs, steps[:cut])
		if f == api.OK {
			got, k, f = formula.Calc(got, steps[cut:])
			if f != api.OK {
				k += cut
			}
		}
		if !slices.Equal(got, want) || k != at || f != e {
			t.Fatalf("%v with %v, cut at %d: %v, %d, %d; not %v, %d, %d", regs, steps, cut, got, k, f, want, at, e)
		}
	}
	for _, e := range []api.Errno{api.OK, api.ErrZero, api.FoErrBig} {
		if met[e] < 100 {
			t.Errorf("the error %d is met only %d times", e, met[e])
		}
	}
}
