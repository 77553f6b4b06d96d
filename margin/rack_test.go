package margin_test

import (
	"math"
	"math/rand/v2"
	"slices"
	"testing"

	"quicksilver/api"
	"quicksilver/margin"
)

// P3.5: Group, with the example and the errors in their order.
func TestGroup(t *testing.T) {
	two := []api.Span{span(350, 649), span(600, 900)}
	twelve := make([]api.Span, 12)
	numbers := []int{0, 1, 2, 3, 4, 5, 6, 7, 8, 9, 10, 11}
	for i, c := range []struct {
		spans    []api.Span
		volt     int
		passed   bool
		after    []api.Span
		suspects []int
		e        api.Errno
	}{
		{two, 900, false, []api.Span{span(350, 499), span(600, 900)}, []int{0}, api.OK},
		{two, 900, true, []api.Span{span(500, 649), span(600, 900)}, nil, api.OK},
		{two, 800, false, two, []int{0, 1}, api.OK},
		{two, 800, true, nil, nil, api.ErrDown},
		{two, 1000, true, two, nil, api.OK},
		{two, 1000, false, nil, nil, api.ErrDown},
		{[]api.Span{span(600, 900), span(100, 200), span(600, 900)}, 900, false, []api.Span{span(600, 900), span(100, 200), span(600, 900)}, []int{1}, api.OK},
		{[]api.Span{span(499, 500)}, 900, false, []api.Span{span(499, 499)}, []int{0}, api.OK},
		{[]api.Span{span(499, 500)}, 900, true, []api.Span{span(500, 500)}, nil, api.OK},
		{[]api.Span{span(500, 500)}, 900, false, nil, nil, api.ErrDown},
		{[]api.Span{span(499, 499)}, 900, true, nil, nil, api.ErrDown},
		{[]api.Span{span(600, 600), span(499, 499)}, 900, true, nil, nil, api.ErrDown},
		{[]api.Span{span(0, 1000000)}, 900, true, []api.Span{span(500, 1000000)}, nil, api.OK}, // also above New
		{nil, 900, true, nil, nil, api.OK},
		{nil, 900, false, nil, nil, api.ErrDown},
		{twelve, 900, false, twelve, numbers, api.OK},
		{make([]api.Span, 13), 799, true, nil, nil, api.ErrRange},
		{make([]api.Span, 13), 1001, true, nil, nil, api.ErrRange},
		{append(make([]api.Span, 12), span(-1, 0)), 900, true, nil, nil, api.ErrLong},
		{[]api.Span{span(5, -1)}, 900, true, nil, nil, api.ErrRange},
		{[]api.Span{span(0, 1000001)}, 900, false, nil, nil, api.ErrRange},
		{[]api.Span{span(1000001, 0)}, 900, false, nil, nil, api.ErrRange},
		{[]api.Span{span(math.MinInt, math.MaxInt)}, 900, false, nil, nil, api.ErrRange},
		{[]api.Span{span(5, 4), span(-1, 0)}, 900, true, nil, nil, api.ErrArg}, // the first one decides
		{[]api.Span{span(0, 0), span(-1, -2), span(5, 4)}, 900, true, nil, nil, api.ErrRange},
	} {
		after, suspects, e := margin.Group(kindK(), c.spans, c.volt, c.passed)
		if !slices.Equal(after, c.after) || !slices.Equal(suspects, c.suspects) || e != c.e {
			t.Errorf("%d: Group = %v, %v, %d", i, after, suspects, e)
		}
	}
}

// groupTruths yields the strengths of each truth of a group.
func groupTruths(spans []api.Span, need int, passed bool) func(yield func([]int) bool) {
	return func(yield func([]int) bool) {
		more := true
		var choose func(truth []int)
		choose = func(truth []int) {
			if len(truth) == len(spans) {
				low := slices.ContainsFunc(truth, func(strength int) bool { return strength < need })
				if low != passed {
					more = more && yield(slices.Clone(truth))
				}
				return
			}
			s := spans[len(truth)]
			for strength := s.Lo; strength <= s.Hi && more; strength++ {
				choose(append(truth, strength))
			}
		}
		choose(nil)
	}
}

// P3.5, P3.11: Group is what follows from all truths of a group; an only suspect is surely below what is needed; a group that passes has none.
func TestAllTruthsOfAGroup(t *testing.T) {
	r := rand.New(rand.NewPCG(51, 52))
	down, only, several := 0, 0, 0
	for range 5000 {
		k := someKind(r, 8, 3)
		volt, pass := between(r, lowest(k), api.All), r.IntN(2) == 0
		need := needs(k, volt)
		spans := make([]api.Span, r.IntN(5))
		for i := range spans {
			spans[i] = someSpan(r, 0, 7)
		}
		var want []api.Span
		var who []int
		wantE := api.ErrDown
		low := make([]bool, len(spans))
		for truth := range groupTruths(spans, need, pass) {
			for i, strength := range truth {
				if wantE == api.ErrDown {
					want = append(want, span(strength, strength))
				}
				want[i] = span(min(want[i].Lo, strength), max(want[i].Hi, strength))
				low[i] = low[i] || strength < need
			}
			wantE = api.OK
		}
		for i := range low {
			if low[i] {
				who = append(who, i)
			}
		}
		after, suspects, e := margin.Group(k, spans, volt, pass)
		if !slices.Equal(after, want) || !slices.Equal(suspects, who) || e != wantE {
			t.Fatalf("Group of %v, %v, %d, %v = %v, %v, %d; not %v, %v, %d", k, spans, volt, pass, after, suspects, e, want, who, wantE)
		}
		switch {
		case e == api.ErrDown:
			down++
		case len(suspects) == 1:
			only++
			if after[suspects[0]].Hi >= need {
				t.Fatalf("Group of %v, %v, %d, %v = %v, %v", k, spans, volt, pass, after, suspects)
			}
		case len(suspects) > 1:
			several++
		}
		if pass && len(suspects) > 0 {
			t.Fatalf("Group of %v, %v, %d passed, with suspects %v", k, spans, volt, suspects)
		}
	}
	if down < 300 || only < 300 || several < 300 {
		t.Errorf("%d without a truth, %d with one suspect, %d with several", down, only, several)
	}
}

// rackOf is a rack of valves without checks.
func rackOf(kinds ...api.MgKind) []api.MgValve {
	var rack []api.MgValve
	for _, k := range kinds {
		rack = append(rack, api.MgValve{Kind: k})
	}
	return rack
}

// samePlan says whether two plans are equal.
func samePlan(a, b [][]int) bool { return slices.EqualFunc(a, b, slices.Equal[[]int]) }

// P3.6: Replace, with the example.
func TestReplace(t *testing.T) {
	five := []int{100, 200, 300, 400, 500}
	still, bad, free := kindK(), kindK(), kindK()
	still.Wear = span(0, 0)
	bad.New = 299
	free.New, free.Steps[0].Need = 1, 0
	three := []api.MgValve{{Kind: kindK(), Checks: checksK()}, {Kind: still}, {Kind: kindK()}}
	for i, c := range []struct {
		rack        []api.MgValve
		nights      []int
		from, until int
		want        [][]int
		e           api.Errno
	}{
		{rackOf(kindK()), five, 0, 600, [][]int{nil, {0}, nil, {0}, nil}, api.OK},
		{rackOf(kindK()), five, 0, 633, [][]int{nil, {0}, nil, {0}, nil}, api.OK},
		{rackOf(kindK()), five, 0, 634, [][]int{nil, {0}, nil, {0}, {0}}, api.OK},
		{rackOf(kindK()), five, 0, 733, [][]int{nil, {0}, nil, {0}, {0}}, api.OK},
		{rackOf(kindK()), five, 0, 734, nil, api.ErrDown},
		{rackOf(kindK()), five, 0, 233, make([][]int, 5), api.OK},
		{rackOf(kindK()), five, 0, 234, [][]int{nil, {0}, nil, nil, nil}, api.OK},
		{rackOf(kindK()), []int{234, 468}, 0, 701, [][]int{{0}, {0}}, api.OK}, // in the hour in which it can be below
		{rackOf(kindK()), []int{234, 468}, 0, 702, nil, api.ErrDown},
		{rackOf(kindK()), []int{235}, 0, 300, nil, api.ErrDown},
		{rackOf(kindK()), []int{0, 235}, 0, 300, nil, api.ErrDown}, // replaced at 0 it is no better
		{rackOf(kindK()), []int{100}, 100, 333, [][]int{{0}}, api.OK},
		{rackOf(kindK()), five, 300, 540, [][]int{nil, nil, {0}, nil, {0}}, api.OK}, // at 300, where it can be below at once
		{rackOf(kindK()), five, 301, 540, nil, api.ErrDown},                         // 300 is over
		{rackOf(kindK()), five, 300, 300, [][]int{nil, nil, {0}, nil, nil}, api.OK},
		{rackOf(kindK()), nil, 0, 233, nil, api.OK},
		{rackOf(kindK()), nil, 0, 234, nil, api.ErrDown},
		{rackOf(bad), five, 0, 0, nil, api.ErrDown},
		{rackOf(bad), []int{0}, 0, 0, nil, api.ErrDown}, // also a new one is below
		{rackOf(bad), []int{0, 1, 2, 3}, 0, 3, nil, api.ErrDown},
		{rackOf(free, still), five, 0, 100000, make([][]int, 5), api.OK},
		{rackOf(kindK(), kindK(), kindK()), five, 0, 300, [][]int{nil, {0, 1, 2}, nil, nil, nil}, api.OK},
		{rackOf(still, kindK(), bad), five, 0, 300, nil, api.ErrDown},
		{three, []int{210, 240, 260, 400, 450}, 200, 460, [][]int{{2}, nil, {0}, {2}, nil}, api.OK}, // it can be below at 234, and with the checks at 267
		{nil, five, 0, 100000, make([][]int, 5), api.OK},
		{nil, nil, 0, 0, nil, api.OK},
	} {
		if p, e := margin.Replace(c.rack, c.nights, c.from, c.until); !samePlan(p, c.want) || e != c.e {
			t.Errorf("%d: Replace = %v, %d", i, p, e)
		}
	}
}

// P3.6: the errors of Replace, each before all that come after it.
func TestErrorOfReplace(t *testing.T) {
	twenty := make([]int, 20)
	for i := range twenty {
		twenty[i] = 100 * i
	}
	broken := func(e api.Errno) api.MgValve {
		v := api.MgValve{Kind: kindK()}
		switch e {
		case api.ErrArg:
			v.Kind.Wear = span(3, 1)
		case api.ErrLong:
			v.Kind.Steps = nil
		case api.ErrDown:
			v.Checks = []api.MgCheck{failed(0, 800)}
		}
		return v
	}
	for i, c := range []struct {
		rack        []api.MgValve
		nights      []int
		from, until int
		e           api.Errno
	}{
		{rackOf(slices.Repeat([]api.MgKind{kindK()}, 12)...), twenty, 0, 1900, api.OK},
		{make([]api.MgValve, 13), []int{-1}, -1, 0, api.ErrLong},
		{nil, slices.Repeat([]int{-1}, 21), -1, 0, api.ErrLong},
		{nil, []int{5, 5, -1}, 0, 0, api.ErrRange},
		{nil, []int{100001}, 0, 0, api.ErrRange},
		{nil, []int{100000}, 0, 0, api.OK},
		{nil, []int{math.MaxInt, math.MinInt}, 0, 0, api.ErrRange},
		{nil, []int{5, 5}, -1, 0, api.ErrRange},
		{nil, []int{5, 5}, 100001, 0, api.ErrRange},
		{nil, []int{5, 5}, 0, -1, api.ErrRange},
		{nil, []int{5, 5}, 0, 100001, api.ErrRange},
		{nil, nil, 100000, 100000, api.OK},
		{make([]api.MgValve, 1), []int{5, 5}, 0, 0, api.ErrArg},
		{make([]api.MgValve, 1), []int{5, 4}, 0, 0, api.ErrArg},
		{make([]api.MgValve, 1), nil, 1, 0, api.ErrArg},
		{make([]api.MgValve, 1), []int{4, 5}, 0, 0, api.ErrRange},
		{[]api.MgValve{broken(api.OK), broken(api.ErrArg), broken(api.ErrLong)}, nil, 0, 300, api.ErrArg}, // the first valve decides, before the plan
		{[]api.MgValve{broken(api.OK), broken(api.ErrLong), broken(api.ErrArg)}, nil, 0, 300, api.ErrLong},
		{[]api.MgValve{broken(api.ErrDown), broken(api.ErrArg)}, nil, 0, 0, api.ErrDown},
		{[]api.MgValve{{Kind: kindK(), Checks: checksK()}}, twenty, 199, 300, api.ErrArg},
		{[]api.MgValve{{Kind: kindK(), Checks: checksK()}}, twenty, 200, 300, api.OK},
		{[]api.MgValve{{Kind: kindK(), Checks: make([]api.MgCheck, 31)}}, nil, 0, 0, api.ErrLong},
		{[]api.MgValve{{Kind: kindK(), Checks: []api.MgCheck{passed(0, 5)}}}, nil, 0, 0, api.ErrRange},
	} {
		p, e := margin.Replace(c.rack, c.nights, c.from, c.until)
		if e != c.e || e != api.OK && len(p) != 0 {
			t.Errorf("%d: Replace = %v, %d", i, p, e)
		}
	}
}

// firstAfter returns the first hour from one on, and up to the last one, at which one of some strengths of a valve can have become less than what it needs (-1: there is none).
func firstAfter(k api.MgKind, s strengths, from, until int) int {
	for hour := from; hour <= until; hour++ {
		if s.below(needs(k, api.All)) > 0 {
			return hour
		}
		s = s.worn(k)
	}
	return -1
}

// latestByDefinition returns the indices of the nights in which a valve with some strengths is replaced by the latest plan.
func latestByDefinition(k api.MgKind, s strengths, nights []int, from, until int) []int {
	var plan []int
	for hour := from; ; {
		low := firstAfter(k, s, hour, until)
		night := -1
		for i, at := range nights {
			if at >= from && at <= low && !slices.Contains(plan, i) {
				night = i
			}
		}
		if low == -1 || night == -1 {
			return plan
		}
		plan = append(plan, night)
		hour, s = nights[night], strengths{k.New: true}
	}
}

// isSafe says whether a valve with some strengths is never below what it needs if it is replaced in some nights.
func isSafe(k api.MgKind, s strengths, nights, plan []int, from, until int) bool {
	for hour := from; hour <= until; hour++ {
		for _, i := range plan {
			if nights[i] == hour {
				s = strengths{k.New: true}
			}
		}
		if s.below(needs(k, api.All)) > 0 {
			return false
		}
		s = s.worn(k)
	}
	return true
}

// fewestSafe returns in how many nights a valve is replaced at least by a safe plan (-1: no plan is safe).
func fewestSafe(k api.MgKind, s strengths, nights []int, from, until int) int {
	fewest := -1
	for choice := range 1 << len(nights) {
		var plan []int
		for i := range nights {
			if choice>>i&1 == 1 {
				plan = append(plan, i)
			}
		}
		allowed := len(plan) == 0 || nights[plan[0]] >= from
		if allowed && (fewest == -1 || len(plan) < fewest) && isSafe(k, s, nights, plan, from, until) {
			fewest = len(plan)
		}
	}
	return fewest
}

// someNights returns hours that ascend.
func someNights(r *rand.Rand, most, last int) []int {
	var nights []int
	for hour := range last + 1 {
		if len(nights) < most && r.IntN(3) == 0 {
			nights = append(nights, hour)
		}
	}
	return nights
}

// P3.6, P3.12: Replace returns the latest plan valve by valve; no plan that is safe replaces fewer, and without one there is none.
func TestAllPlans(t *testing.T) {
	r := rand.New(rand.NewPCG(53, 54))
	down, often, checked := 0, 0, 0
	for range 1500 {
		nights := someNights(r, 7, 16)
		from := between(r, 0, 5)
		until := between(r, from, 18)
		want := make([][]int, len(nights))
		wantE := api.OK
		rack := make([]api.MgValve, r.IntN(4))
		for i := range rack {
			k := someKind(r, between(r, 4, 16), 3)
			truth := someTruth(r, k, from)
			v := api.MgValve{Kind: k, Checks: checksOf(r, k, truth, 2, from)}
			rack[i] = v
			s := possible(k, v.Checks, from)
			plan := latestByDefinition(k, s, nights, from, until)
			safe := isSafe(k, s, nights, plan, from, until)
			if fewest := fewestSafe(k, s, nights, from, until); safe && len(plan) != fewest || !safe && fewest != -1 {
				t.Fatalf("%v, %v, %d to %d: the latest plan is %v; the fewest are %d", v, nights, from, until, plan, fewest)
			}
			if !safe {
				wantE = api.ErrDown
			}
			for _, night := range plan {
				want[night] = append(want[night], i)
			}
			if len(plan) > 2 && safe {
				often++
			}
			if len(v.Checks) > 0 {
				checked++
			}
		}
		if wantE != api.OK {
			want = nil
			down++
		}
		if p, e := margin.Replace(rack, nights, from, until); !samePlan(p, want) || e != wantE {
			t.Fatalf("Replace of %v, %v, %d to %d = %v, %d; not %v, %d", rack, nights, from, until, p, e, want, wantE)
		}
	}
	if down < 200 || often < 50 || checked < 200 {
		t.Errorf("%d without a plan, %d replaced more than twice, %d with checks", down, often, checked)
	}
}

// P3.12: with the plan of Replace no valve is below what it needs, in any truth that is tried.
func TestPlanInAnyTruth(t *testing.T) {
	r := rand.New(rand.NewPCG(55, 56))
	replaced := 0
	for range 1000 {
		const last = 1000
		var nights []int
		for at := between(r, 0, 100); at <= last && len(nights) < api.MaxMgNights; at += between(r, 1, 150) {
			nights = append(nights, at)
		}
		from := between(r, 0, 300)
		until := between(r, from, last)
		rack := make([]api.MgValve, between(r, 1, 4))
		truths := make([][]int, len(rack))
		for i := range rack {
			k := someKind(r, 3000, 6)
			truths[i] = someTruth(r, k, last)
			rack[i] = api.MgValve{Kind: k, Checks: checksOf(r, k, truths[i], 6, from)}
		}
		plan, e := margin.Replace(rack, nights, from, until)
		if e == api.ErrDown {
			continue
		}
		if e != api.OK || len(plan) != len(nights) {
			t.Fatalf("Replace of %v, %v, %d to %d = %v, %d", rack, nights, from, until, plan, e)
		}
		for night, valves := range plan {
			for _, i := range valves {
				replaced++
				copy(truths[i][nights[night]:], someTruth(r, rack[i].Kind, last))
			}
		}
		for i, truth := range truths {
			if hour := firstBelow(rack[i].Kind, truth[:until+1], from); hour != -1 {
				t.Fatalf("Replace of %v, %v, %d to %d = %v: %d is below at %d", rack, nights, from, until, plan, i, hour)
			}
		}
	}
	if replaced < 300 {
		t.Errorf("only %d are replaced", replaced)
	}
}
