package margin_test

import (
	"maps"
	"math"
	"math/rand/v2"
	"slices"
	"testing"

	"quicksilver/api"
	"quicksilver/margin"
)

// P3.2: Now, with the examples.
func TestNow(t *testing.T) {
	still := kindK()
	still.Wear = span(0, 0)
	for i, c := range []struct {
		k      api.MgKind
		checks []api.MgCheck
		hour   int
		want   api.Span
	}{
		{kindK(), checksK(), 200, span(500, 699)},
		{kindK(), checksK(), 250, span(350, 649)},
		{kindK(), checksK()[:1], 100, span(700, 900)},
		{kindK(), checksK()[:1], 200, span(400, 800)},
		{kindK(), checksK()[1:], 200, span(500, 699)},
		{kindK(), checksK(), 600, span(0, 299)},
		{kindK(), checksK(), 100000, span(0, 0)},
		{kindK(), nil, 0, span(1000, 1000)},
		{kindK(), nil, 1, span(997, 999)},
		{kindK(), nil, 334, span(0, 666)}, // not below 0
		{kindK(), nil, 1000, span(0, 0)},
		{kindK(), []api.MgCheck{failed(234, 1000)}, 234, span(298, 299)},
		{kindK(), []api.MgCheck{passed(700, 1000)}, 700, span(300, 300)},
		{still, nil, 100000, span(1000, 1000)},
		{kindK(), []api.MgCheck{passed(200, 900), failed(200, 850)}, 200, span(500, 699)}, // at 850 as much as at 800
		{kindK(), []api.MgCheck{failed(200, 800), passed(100, 800)}, 250, span(250, 649)}, // not in the order of hours
	} {
		if s, e := margin.Now(c.k, c.checks, c.hour); s != c.want || e != api.OK {
			t.Errorf("%d: Now = %v, %d", i, s, e)
		}
	}
}

// P3.3: Fails, with the example.
func TestFails(t *testing.T) {
	still, free, slow, bad, last := kindK(), kindK(), kindK(), kindK(), kindK()
	still.Wear = span(0, 0)
	free.Steps[0].Need = 0
	slow.Wear = span(0, 3)
	bad.New = 299
	bad.Wear = span(0, 0)
	last.Wear = span(0, 1)
	last.New, last.Steps = 1000000, []api.MgStep{step(1000, 1)}
	for i, c := range []struct {
		k      api.MgKind
		checks []api.MgCheck
		from   int
		want   api.MgFail
	}{
		{kindK(), checksK(), 250, fail(267, 600)},
		{kindK(), checksK(), 200, fail(267, 600)},
		{kindK(), checksK(), 267, fail(267, 600)},
		{kindK(), checksK(), 268, fail(268, 600)},
		{kindK(), checksK(), 601, fail(601, 601)},
		{kindK(), nil, 0, fail(234, 701)},
		{kindK(), nil, 701, fail(701, 701)},
		{kindK(), nil, 100000, fail(100000, 100000)},
		{kindK(), []api.MgCheck{passed(700, 1000)}, 700, fail(701, 701)},
		{still, nil, 100000, fail(-1, -1)},
		{free, nil, 0, fail(-1, -1)}, // nothing is below 0
		{free, nil, 100000, fail(-1, -1)},
		{slow, nil, 0, fail(234, -1)},
		{slow, []api.MgCheck{failed(300, 1000)}, 300, fail(300, 300)},
		{bad, nil, 0, fail(0, 0)},
		{bad, nil, 7, fail(7, 7)},
		{last, nil, 100000, fail(1000000, -1)}, // however late
	} {
		if f, e := margin.Fails(c.k, c.checks, c.from); f != c.want || e != api.OK {
			t.Errorf("%d: Fails = %v, %d", i, f, e)
		}
	}
}

// P3.3: Life, with the examples, and its errors.
func TestLife(t *testing.T) {
	weak, equal, exact, above, still, free := kindK(), kindK(), kindK(), kindK(), kindK(), kindK()
	weak.New = 600
	equal.Steps[1].Need = 300
	exact.New = 500
	above.New = 499
	still.Wear = span(0, 0)
	free.Steps[0].Need = 0
	for i, c := range []struct {
		k    api.MgKind
		step int
		want api.MgFail
		e    api.Errno
	}{
		{kindK(), 1, fail(67, 400), api.OK},
		{kindK(), 2, fail(134, 701), api.OK},
		{kindK(), 0, fail(1, 200), api.OK},
		{kindK(), 3, fail(0, 0), api.ErrNone},
		{kindK(), -1, fail(0, 0), api.ErrNone},
		{kindK(), math.MaxInt, fail(0, 0), api.ErrNone},
		{kindK(), math.MinInt, fail(0, 0), api.ErrNone},
		{weak, 1, fail(67, 301), api.OK}, // up to New
		{weak, 2, fail(0, 0), api.ErrDown},
		{equal, 0, fail(0, 0), api.ErrDown}, // from 300, and below 300
		{equal, 1, fail(1, 400), api.OK},
		{exact, 0, fail(1, 200), api.OK}, // below 500, although it is New
		{exact, 1, fail(67, 201), api.OK},
		{above, 0, fail(1, 200), api.OK},
		{above, 1, fail(0, 0), api.ErrDown},
		{still, 1, fail(-1, -1), api.OK},
		{free, 1, fail(-1, -1), api.OK},
	} {
		if f, e := margin.Life(c.k, c.step); f != c.want || e != c.e {
			t.Errorf("%d: Life = %v, %d", i, f, e)
		}
	}
}

// P3.4: Next, with the example.
func TestNext(t *testing.T) {
	flat := kindK()
	flat.Steps[0].Need = 500
	for i, c := range []struct {
		k                 api.MgKind
		checks            []api.MgCheck
		hour, volt, width int
	}{
		{kindK(), checksK(), 250, 900, 149},
		{kindK(), checksK(), 200, 1000, 199}, // no check tells anything: the first one
		{kindK(), nil, 0, 1000, 0},
		{kindK(), nil, 100, 1000, 200},
		{kindK(), nil, 150, 800, 150},
		{kindK(), nil, 250, 900, 250},
		{kindK(), nil, 300, 900, 399},
		{kindK(), []api.MgCheck{failed(600, 1000)}, 600, 1000, 299}, // what can be, not what is needed
		{flat, checksK(), 250, 1000, 149},                           // of two the first one
	} {
		if v, w, e := margin.Next(c.k, c.checks, c.hour); v != c.volt || w != c.width || e != api.OK {
			t.Errorf("%d: Next = %d, %d, %d", i, v, w, e)
		}
	}
}

// strengths is which strengths there are.
type strengths map[int]bool

// worn returns the strengths that there are an hour later.
func (s strengths) worn(k api.MgKind) strengths {
	later := strengths{}
	for strength := range s {
		for wear := k.Wear.Lo; wear <= k.Wear.Hi; wear++ {
			later[max(0, strength-wear)] = true
		}
	}
	return later
}

// below returns how many strengths are below what is needed.
func (s strengths) below(need int) int {
	count := 0
	for strength := range s {
		if strength < need {
			count++
		}
	}
	return count
}

// ends returns the least and the greatest strength.
func (s strengths) ends() api.Span {
	sorted := slices.Sorted(maps.Keys(s))
	return span(sorted[0], sorted[len(sorted)-1])
}

// possible returns the strengths at an hour of all truths, found from all ways in which a valve can lose strength in each hour.
func possible(k api.MgKind, checks []api.MgCheck, hour int) strengths {
	found := strengths{}
	agrees := func(truth []int) bool {
		for _, c := range checks {
			if c.Passed != (truth[c.Hour] >= needs(k, c.Volt)) {
				return false
			}
		}
		return true
	}
	var age func(truth []int)
	age = func(truth []int) {
		last := truth[len(truth)-1]
		if len(truth) == hour+1 {
			if agrees(truth) {
				found[last] = true
			}
			return
		}
		for wear := k.Wear.Lo; wear <= k.Wear.Hi; wear++ {
			age(append(truth, max(0, last-wear)))
		}
	}
	age([]int{k.New})
	return found
}

// failing returns from which hour on one of the strengths of an hour can be below what is needed, and from which one on all are.
func failing(k api.MgKind, s strengths, from int) api.MgFail {
	f := fail(-1, -1)
	// Whatever falls at all has fallen as far as it can after as many hours as a new valve has strength.
	for hour := from; hour <= from+k.New+1; hour++ {
		below := s.below(needs(k, api.All))
		if f.Earliest == -1 && below > 0 {
			f.Earliest = hour
		}
		if f.Latest == -1 && below == len(s) {
			f.Latest = hour
		}
		s = s.worn(k)
	}
	return f
}

// someChecks returns checks up to an hour, with any results.
func someChecks(r *rand.Rand, k api.MgKind, most, hour int) []api.MgCheck {
	checks := make([]api.MgCheck, r.IntN(most+1))
	for i := range checks {
		checks[i] = api.MgCheck{Hour: between(r, 0, hour), Volt: between(r, lowest(k), api.All), Passed: r.IntN(2) == 0}
	}
	return checks
}

// P3.2, P3.3, P3.7: Now and Fails are what follows from all truths, and each strength of the span has one.
func TestAllTruths(t *testing.T) {
	r := rand.New(rand.NewPCG(31, 32))
	down, never, checked := 0, 0, 0
	for range 6000 {
		k := someKind(r, between(r, 1, 12), 3)
		hour := between(r, 0, 5)
		checks := someChecks(r, k, 3, hour)
		s, e := margin.Now(k, checks, hour)
		f, g := margin.Fails(k, checks, hour)
		can := possible(k, checks, hour)
		if len(can) == 0 {
			down++
			if s != span(0, 0) || e != api.ErrDown || f != fail(0, 0) || g != api.ErrDown {
				t.Fatalf("%v, %v at %d: Now = %v, %d; Fails = %v, %d", k, checks, hour, s, e, f, g)
			}
			continue
		}
		if want := can.ends(); s != want || e != api.OK || len(can) != want.Hi-want.Lo+1 {
			t.Fatalf("%v, %v at %d: Now = %v, %d; there are %v", k, checks, hour, s, e, can)
		}
		if want := failing(k, can, hour); f != want || g != api.OK {
			t.Fatalf("%v, %v from %d: Fails = %v, %d; not %v", k, checks, hour, f, g, want)
		}
		if f.Latest == -1 {
			never++
		}
		if len(checks) > 1 {
			checked++
		}
	}
	if down < 500 || never < 500 || checked < 500 {
		t.Errorf("%d without a truth, %d that never fail, %d with checks", down, never, checked)
	}
}

// P3.3: Life is what follows from all strengths of a step.
func TestAllStrengthsOfAStep(t *testing.T) {
	r := rand.New(rand.NewPCG(33, 34))
	down := 0
	for range 3000 {
		k := someKind(r, between(r, 1, 20), 4)
		for i := range k.Steps {
			s := strengths{}
			for strength := k.Steps[i].Need; strength <= k.New; strength++ {
				if i+1 == len(k.Steps) || strength < k.Steps[i+1].Need {
					s[strength] = true
				}
			}
			want, wantE := fail(0, 0), api.ErrDown
			if len(s) > 0 {
				want, wantE = failing(k, s, 0), api.OK
			} else {
				down++
			}
			if f, e := margin.Life(k, i); f != want || e != wantE {
				t.Fatalf("Life of %v, %d = %v, %d; not %v, %d", k, i, f, e, want, wantE)
			}
		}
	}
	if down < 100 {
		t.Errorf("only %d without a strength", down)
	}
}

// someTruth returns the strengths of a valve, hour by hour. It has long times of much wear, and of little.
func someTruth(r *rand.Rand, k api.MgKind, hours int) []int {
	truth := []int{k.New}
	wear := k.Wear
	for hour := range hours {
		if hour%50 == 0 {
			wear = k.Wear
			switch r.IntN(3) {
			case 0:
				wear.Lo = wear.Hi
			case 1:
				wear.Hi = wear.Lo
			}
		}
		truth = append(truth, max(0, truth[hour]-between(r, wear.Lo, wear.Hi)))
	}
	return truth
}

// checksOf returns checks of a truth up to an hour.
func checksOf(r *rand.Rand, k api.MgKind, truth []int, most, hour int) []api.MgCheck {
	checks := someChecks(r, k, most, hour)
	for i, c := range checks {
		checks[i].Passed = truth[c.Hour] >= needs(k, c.Volt)
	}
	return checks
}

// firstBelow returns the first hour, from one on, at which a truth is below what is needed (-1: there is none).
func firstBelow(k api.MgKind, truth []int, from int) int {
	for hour := from; hour < len(truth); hour++ {
		if truth[hour] < needs(k, api.All) {
			return hour
		}
	}
	return -1
}

// allows says whether a valve can have failed first at an hour (-1: not in the hours up to the last one).
func allows(f api.MgFail, hour, last int) bool {
	if hour == -1 {
		return f.Latest == -1 || f.Latest > last
	}
	return f.Earliest != -1 && f.Earliest <= hour && (f.Latest == -1 || hour <= f.Latest)
}

// P3.7: any truth is in the span of Now, and its valve fails between both hours of Fails.
func TestAnyTruth(t *testing.T) {
	r := rand.New(rand.NewPCG(35, 36))
	const last = 1200
	falls := 0
	for range 2000 {
		k := someKind(r, 2000, 6)
		truth := someTruth(r, k, last)
		from := between(r, 0, last)
		checks := checksOf(r, k, truth, 30, from)
		s, e := margin.Now(k, checks, from)
		if e != api.OK || truth[from] < s.Lo || truth[from] > s.Hi {
			t.Fatalf("%v, %v at %d: Now = %v, %d without %d", k, checks, from, s, e, truth[from])
		}
		f, e := margin.Fails(k, checks, from)
		hour := firstBelow(k, truth, from)
		if e != api.OK || !allows(f, hour, last) {
			t.Fatalf("%v, %v from %d: Fails = %v, %d without %d", k, checks, from, f, e, hour)
		}
		if hour > from {
			falls++
		}
	}
	if falls < 300 {
		t.Errorf("only %d fail later", falls)
	}
}

// P3.8: a valve whose margin was measured fails between both hours of Life.
func TestMeasured(t *testing.T) {
	r := rand.New(rand.NewPCG(37, 38))
	const last = 1200
	measured := 0
	for range 3000 {
		k := someKind(r, 2000, 6)
		truth := someTruth(r, k, last)
		hour := between(r, 0, 600)
		for i := range len(k.Steps) - 1 {
			if truth[hour] < k.Steps[i].Need || truth[hour] >= k.Steps[i+1].Need {
				continue
			}
			measured++
			f, e := margin.Life(k, i)
			fails := firstBelow(k, truth, hour)
			if fails != -1 {
				fails -= hour
			}
			if e != api.OK || !allows(f, fails, last-hour) {
				t.Fatalf("Life of %v, %d = %v, %d without %d", k, i, f, e, fails)
			}
		}
	}
	if measured < 500 {
		t.Errorf("only %d are measured", measured)
	}
}

// later says whether an hour is not before another one (-1: never).
func later(a, b int) bool { return a == -1 || b != -1 && a >= b }

// P3.9: the order of checks, and that one is there twice, changes nothing; a further one leaves no more.
func TestAnyOrder(t *testing.T) {
	r := rand.New(rand.NewPCG(39, 40))
	narrower := 0
	for range 3000 {
		k := someKind(r, 2000, 6)
		truth := someTruth(r, k, 600)
		from := between(r, 0, 600)
		checks := checksOf(r, k, truth, 29, from)
		s, _ := margin.Now(k, checks, from)
		f, _ := margin.Fails(k, checks, from)
		mixed := slices.Clone(checks)
		if len(mixed) > 0 {
			mixed = append(mixed, mixed[r.IntN(len(mixed))])
		}
		r.Shuffle(len(mixed), func(i, k int) { mixed[i], mixed[k] = mixed[k], mixed[i] })
		s2, e := margin.Now(k, mixed, from)
		f2, g := margin.Fails(k, mixed, from)
		if s2 != s || f2 != f || e != api.OK || g != api.OK {
			t.Fatalf("%v, %v: %v, %v; in another order %v, %v", k, checks, s, f, s2, f2)
		}
		more := append(slices.Clone(checks), api.MgCheck{Hour: r.IntN(from + 1), Volt: between(r, lowest(k), api.All)})
		for _, c := range []bool{true, false} {
			more[len(checks)].Passed = c
			s3, e := margin.Now(k, more, from)
			f3, g := margin.Fails(k, more, from)
			if e == api.ErrDown && g == e {
				continue
			}
			if e != api.OK || g != api.OK || s3.Lo < s.Lo || s3.Hi > s.Hi || !later(f3.Earliest, f.Earliest) || !later(f.Latest, f3.Latest) {
				t.Fatalf("%v, %v: %v, %v; with a further check %v, %v", k, more, s, f, s3, f3)
			}
			if s3 != s {
				narrower++
			}
		}
	}
	if narrower < 200 {
		t.Errorf("only %d checks tell more", narrower)
	}
}

// P3.4, P3.10: the check of Next leaves in the worst case what it says, and the check at any voltage leaves as much.
func TestTellsMost(t *testing.T) {
	r := rand.New(rand.NewPCG(41, 42))
	later := 0
	for range 400 {
		k := someKind(r, 400, 6)
		truth := someTruth(r, k, 100)
		hour := between(r, 0, 100)
		checks := checksOf(r, k, truth, 5, hour)
		volt, width, e := margin.Next(k, checks, hour)
		if e != api.OK {
			t.Fatalf("Next of %v, %v at %d: %d", k, checks, hour, e)
		}
		worst := func(volt int) int {
			widest := -1
			for _, c := range []api.MgCheck{passed(hour, volt), failed(hour, volt)} {
				if s, e := margin.Now(k, append(slices.Clone(checks), c), hour); e == api.OK {
					widest = max(widest, s.Hi-s.Lo)
				}
			}
			return widest
		}
		if worst(volt) != width {
			t.Fatalf("Next of %v, %v at %d = %d, %d; it leaves %d", k, checks, hour, volt, width, worst(volt))
		}
		for other := lowest(k); other <= api.All; other++ {
			if worst(other) < width {
				t.Fatalf("Next of %v, %v at %d = %d, %d; %d leaves %d", k, checks, hour, volt, width, other, worst(other))
			}
		}
		for i, s := range k.Steps {
			if s.Volt == volt {
				if i > 0 {
					later++
				}
				break
			}
			if worst(s.Volt) <= width {
				t.Fatalf("Next of %v, %v at %d = %d, %d; %d comes first", k, checks, hour, volt, width, s.Volt)
			}
		}
		if !slices.ContainsFunc(k.Steps, func(s api.MgStep) bool { return s.Volt == volt }) {
			t.Fatalf("Next of %v, %v at %d = %d, which is no step", k, checks, hour, volt)
		}
	}
	if later < 50 {
		t.Errorf("only %d are not the first step", later)
	}
}

// P3.13: with a later hour neither end is greater; with more wear Earliest is no later, and with less Latest no earlier.
func TestLater(t *testing.T) {
	r := rand.New(rand.NewPCG(43, 44))
	for range 3000 {
		k := someKind(r, 2000, 6)
		truth := someTruth(r, k, 600)
		from := between(r, 0, 600)
		checks := checksOf(r, k, truth, 6, from)
		s, _ := margin.Now(k, checks, from)
		s2, e := margin.Now(k, checks, from+r.IntN(300))
		if e != api.OK || s2.Lo > s.Lo || s2.Hi > s.Hi {
			t.Fatalf("%v, %v from %d: Now = %v; later %v", k, checks, from, s, s2)
		}
		f, _ := margin.Fails(k, checks, from)
		more, less := k, k
		more.Wear.Hi += r.IntN(5)
		less.Wear.Lo = r.IntN(less.Wear.Lo + 1)
		f2, e := margin.Fails(more, checks, from)
		f3, g := margin.Fails(less, checks, from)
		if e != api.OK || g != api.OK || !later(f.Earliest, f2.Earliest) || !later(f3.Latest, f.Latest) {
			t.Fatalf("%v, %v from %d: Fails = %v; with more wear %v; with less %v", k, checks, from, f, f2, f3)
		}
	}
}
