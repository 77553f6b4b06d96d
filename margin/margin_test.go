package margin_test

import (
	"math"
	"math/rand/v2"
	"slices"
	"testing"

	"quicksilver/api"
	"quicksilver/margin"
)

// span is that from one number to another one.
func span(lo, hi int) api.Span { return api.Span{Lo: lo, Hi: hi} }

// step is a step of a kind.
func step(volt, need int) api.MgStep { return api.MgStep{Volt: volt, Need: need} }

// fail is an earliest and a latest hour.
func fail(earliest, latest int) api.MgFail { return api.MgFail{Earliest: earliest, Latest: latest} }

// passed and failed are checks.
func passed(hour, volt int) api.MgCheck { return api.MgCheck{Hour: hour, Volt: volt, Passed: true} }

func failed(hour, volt int) api.MgCheck { return api.MgCheck{Hour: hour, Volt: volt} }

// kindK is the kind K of the chapter's examples.
func kindK() api.MgKind {
	return api.MgKind{New: 1000, Wear: span(1, 3), Steps: []api.MgStep{step(1000, 300), step(900, 500), step(800, 700)}}
}

// checksK are the checks of the chapter's examples.
func checksK() []api.MgCheck {
	return []api.MgCheck{passed(100, 800), failed(200, 800), passed(200, 900)}
}

// between returns a number from lo to hi.
func between(r *rand.Rand, lo, hi int) int { return lo + r.IntN(hi-lo+1) }

// someSpan returns a span of numbers from lo to hi.
func someSpan(r *rand.Rand, lo, hi int) api.Span {
	a, b := between(r, lo, hi), between(r, lo, hi)
	return span(min(a, b), max(a, b))
}

// someKind returns a kind with a strength of at most so much, that loses at most so much in an hour.
func someKind(r *rand.Rand, strength, wear int) api.MgKind {
	k := api.MgKind{New: between(r, (strength+1)/2, strength), Wear: someSpan(r, 0, wear)}
	volt, need := api.All, r.IntN(strength/2+1)
	for range between(r, 1, 5) {
		k.Steps = append(k.Steps, step(volt, need))
		volt -= between(r, 1, 200)
		need += r.IntN(strength/3 + 1)
	}
	return k
}

// lowest returns the lowest voltage of a kind.
func lowest(k api.MgKind) int { return k.Steps[len(k.Steps)-1].Volt }

// needs returns what is needed at a voltage, by its definition.
func needs(k api.MgKind, volt int) int {
	for _, s := range k.Steps {
		if s.Volt <= volt {
			return s.Need
		}
	}
	return math.MaxInt
}

// P3.1: Check, with each number at both ends of what is stated.
func TestCheckNumbers(t *testing.T) {
	for i, c := range []struct {
		lo, hi int
		set    func(k *api.MgKind, n int)
	}{
		{1, 1000000, func(k *api.MgKind, n int) { k.New = n }},
		{0, 3, func(k *api.MgKind, n int) { k.Wear.Lo = n }},
		{1, 1000, func(k *api.MgKind, n int) { k.Wear.Hi = n }},
		{1000, 1000, func(k *api.MgKind, n int) { k.Steps[0].Volt = n }},
		{0, 500, func(k *api.MgKind, n int) { k.Steps[0].Need = n }},
		{801, 999, func(k *api.MgKind, n int) { k.Steps[1].Volt = n }},
		{300, 700, func(k *api.MgKind, n int) { k.Steps[1].Need = n }},
		{0, 899, func(k *api.MgKind, n int) { k.Steps[2].Volt = n }},
		{500, 1000000, func(k *api.MgKind, n int) { k.Steps[2].Need = n }},
		{1, 8, func(k *api.MgKind, n int) { k.Steps = steps(n) }},
	} {
		for _, n := range []int{c.lo - 1, c.lo, c.hi, c.hi + 1} {
			k := kindK()
			c.set(&k, n)
			if e := margin.Check(k); (e == api.OK) != (c.lo <= n && n <= c.hi) {
				t.Errorf("%d, %d: Check = %d", i, n, e)
			}
		}
	}
}

// steps returns some steps of a kind.
func steps(count int) []api.MgStep {
	var list []api.MgStep
	for i := range count {
		list = append(list, step(api.All-i, i))
	}
	return list
}

// P3.1: the errors of Check, each before all that come after it; all other functions with a kind return it first.
func TestErrorOfKind(t *testing.T) {
	long := steps(9)
	for i, c := range []struct {
		k api.MgKind
		e api.Errno
	}{
		{api.MgKind{}, api.ErrRange},
		{api.MgKind{New: math.MinInt, Wear: span(2, 1)}, api.ErrRange},
		{api.MgKind{New: 1000001, Steps: steps(1)}, api.ErrRange},
		{api.MgKind{New: 1, Wear: span(-1, -2)}, api.ErrRange},
		{api.MgKind{New: 1, Wear: span(1001, 1000)}, api.ErrRange},
		{api.MgKind{New: 1, Wear: span(0, math.MaxInt)}, api.ErrRange},
		{api.MgKind{New: 1, Wear: span(1, 0)}, api.ErrArg},
		{api.MgKind{New: 1, Wear: span(1000, 999), Steps: long}, api.ErrArg},
		{api.MgKind{New: 1}, api.ErrLong},
		{api.MgKind{New: 1, Steps: make([]api.MgStep, 9)}, api.ErrLong},
		{api.MgKind{New: 1, Steps: []api.MgStep{step(1001, 0)}}, api.ErrRange},
		{api.MgKind{New: 1, Steps: []api.MgStep{step(999, -1)}}, api.ErrRange}, // in one step ErrRange is first
		{api.MgKind{New: 1, Steps: []api.MgStep{step(999, 1000001)}}, api.ErrRange},
		{api.MgKind{New: 1, Steps: []api.MgStep{step(999, 0), step(-1, 0)}}, api.ErrArg}, // the first step decides
		{api.MgKind{New: 1, Steps: []api.MgStep{step(1000, 0), step(1000, -1)}}, api.ErrRange},
		{api.MgKind{New: 1, Steps: []api.MgStep{step(1000, 0), step(1000, 0), step(-1, 0)}}, api.ErrArg},
		{api.MgKind{New: 1, Steps: []api.MgStep{step(1000, 0), step(-1, 0), step(1000, 0)}}, api.ErrRange},
		{api.MgKind{New: 1, Steps: []api.MgStep{step(1000, 5), step(999, 4)}}, api.ErrArg},
		{api.MgKind{New: 1, Steps: []api.MgStep{step(1000, 5), step(999, 5)}}, api.OK},
		{api.MgKind{New: 1, Steps: []api.MgStep{step(1000, 1000000)}}, api.OK},
		{api.MgKind{New: 1000000, Wear: span(1000, 1000), Steps: steps(8)}, api.OK},
	} {
		if e := margin.Check(c.k); e != c.e {
			t.Errorf("%d: Check = %d", i, e)
		}
		if c.e == api.OK {
			continue
		}
		many := make([]api.MgCheck, 31)
		need, e1 := margin.Need(c.k, -1)
		now, e2 := margin.Now(c.k, many, -1)
		fails, e3 := margin.Fails(c.k, many, -1)
		life, e4 := margin.Life(c.k, -1)
		volt, width, e5 := margin.Next(c.k, many, -1)
		after, suspects, e6 := margin.Group(c.k, make([]api.Span, 13), -1, true)
		plan, e7 := margin.Replace([]api.MgValve{{Kind: c.k, Checks: many}}, nil, 0, 0)
		for _, e := range []api.Errno{e1, e2, e3, e4, e5, e6, e7} {
			if e != c.e {
				t.Errorf("%d: errors %d, %d, %d, %d, %d, %d, %d", i, e1, e2, e3, e4, e5, e6, e7)
				break
			}
		}
		if need != 0 || now != span(0, 0) || fails != fail(0, 0) || life != fail(0, 0) || volt != 0 || width != 0 || len(after)+len(suspects)+len(plan) != 0 {
			t.Errorf("%d: results with an error", i)
		}
	}
}

// P3.1: Need, with the examples and the ends of its voltages.
func TestNeed(t *testing.T) {
	zero := kindK()
	zero.Steps[2].Volt = 0
	one := kindK()
	one.Steps = one.Steps[:1]
	for i, c := range []struct {
		k          api.MgKind
		volt, need int
		e          api.Errno
	}{
		{kindK(), 1000, 300, api.OK},
		{kindK(), 950, 500, api.OK},
		{kindK(), 800, 700, api.OK},
		{kindK(), 799, 0, api.ErrRange},
		{kindK(), 999, 500, api.OK},
		{kindK(), 900, 500, api.OK},
		{kindK(), 899, 700, api.OK},
		{kindK(), 1001, 0, api.ErrRange},
		{kindK(), math.MaxInt, 0, api.ErrRange},
		{kindK(), math.MinInt, 0, api.ErrRange},
		{zero, 0, 700, api.OK},
		{zero, -1, 0, api.ErrRange},
		{one, 1000, 300, api.OK},
		{one, 999, 0, api.ErrRange},
	} {
		if n, e := margin.Need(c.k, c.volt); n != c.need || e != c.e {
			t.Errorf("%d: Need = %d, %d", i, n, e)
		}
	}
	r := rand.New(rand.NewPCG(11, 12))
	for range 200 {
		k := someKind(r, 1000, 10)
		for volt := -2; volt <= 1002; volt++ {
			want, wantE := needs(k, volt), api.OK
			if volt < lowest(k) || volt > 1000 {
				want, wantE = 0, api.ErrRange
			}
			if n, e := margin.Need(k, volt); n != want || e != wantE {
				t.Fatalf("Need of %v at %d = %d, %d", k, volt, n, e)
			}
		}
	}
}

// P3.2, P3.3, P3.4: the errors of checks and of hours, in their order.
func TestErrorOfChecks(t *testing.T) {
	thirty := slices.Repeat([]api.MgCheck{passed(5, 1000)}, 30)
	for i, c := range []struct {
		checks []api.MgCheck
		hour   int
		e      api.Errno
	}{
		{thirty, 5, api.OK},
		{append(slices.Clone(thirty), passed(-1, 5)), -1, api.ErrLong},
		{[]api.MgCheck{passed(-1, 1000)}, -1, api.ErrRange},
		{[]api.MgCheck{passed(100001, 1000)}, 5, api.ErrRange},
		{[]api.MgCheck{passed(math.MinInt, 1000)}, 5, api.ErrRange},
		{[]api.MgCheck{failed(100000, 1000)}, 100000, api.OK},
		{[]api.MgCheck{passed(0, 799)}, 0, api.ErrRange},
		{[]api.MgCheck{passed(0, 1001)}, 0, api.ErrRange},
		{[]api.MgCheck{failed(0, 800), passed(0, 799)}, 0, api.ErrRange}, // before there is no truth
		{[]api.MgCheck{failed(0, 800)}, 0, api.ErrDown},
		{[]api.MgCheck{failed(0, 800)}, -1, api.ErrDown}, // before an error of the hour
		{[]api.MgCheck{passed(9, 800), failed(9, 900)}, 5, api.ErrDown},
		{[]api.MgCheck{passed(100000, 1000)}, 5, api.ErrDown},
		{checksK(), -1, api.ErrRange},
		{checksK(), 100001, api.ErrRange},
		{nil, math.MinInt, api.ErrRange},
		{nil, math.MaxInt, api.ErrRange},
		{checksK(), 199, api.ErrArg},
		{checksK(), 200, api.OK},
		{[]api.MgCheck{passed(7, 800), passed(3, 800)}, 5, api.ErrArg}, // the latest one is not the last one
		{nil, 0, api.OK},
		{nil, 100000, api.OK},
	} {
		now, e1 := margin.Now(kindK(), c.checks, c.hour)
		fails, e2 := margin.Fails(kindK(), c.checks, c.hour)
		volt, width, e3 := margin.Next(kindK(), c.checks, c.hour)
		if e1 != c.e || e2 != c.e || e3 != c.e {
			t.Errorf("%d: Now %d, Fails %d, Next %d", i, e1, e2, e3)
		}
		if c.e != api.OK && (now != span(0, 0) || fails != fail(0, 0) || volt != 0 || width != 0) {
			t.Errorf("%d: %v, %v, %d, %d with an error", i, now, fails, volt, width)
		}
	}
}
