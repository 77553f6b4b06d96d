package margin_test

import (
	"math"
	"math/rand/v2"
	"slices"
	"testing"

	"quicksilver/api"
	"quicksilver/margin"
)

// wild returns a number that may be anything, but is often one that can be stated.
func wild(r *rand.Rand, most int) int {
	switch r.IntN(30) {
	case 0:
		return math.MinInt
	case 1:
		return math.MaxInt
	case 2:
		return r.Int()
	case 3:
		return -1 - r.IntN(3)
	}
	return r.IntN(most + 1)
}

// wildSpan returns what is a span at times.
func wildSpan(r *rand.Rand, most int) api.Span {
	lo := wild(r, most)
	if lo < 0 || lo > most || r.IntN(8) == 0 {
		return span(lo, wild(r, most))
	}
	return span(lo, between(r, lo, most))
}

// wildKind returns what is a kind at times.
func wildKind(r *rand.Rand) api.MgKind {
	k := someKind(r, api.MaxMgUnit/2, api.MaxMgWear)
	switch r.IntN(8) {
	case 0:
		k.New = wild(r, api.MaxMgUnit)
	case 1:
		k.Wear = wildSpan(r, api.MaxMgWear)
	case 2:
		k.Steps[r.IntN(len(k.Steps))] = step(wild(r, api.All), wild(r, api.MaxMgUnit))
	case 3:
		k.Steps = make([]api.MgStep, r.IntN(11))
	}
	return k
}

// wildChecks returns what are checks of a kind at times.
func wildChecks(r *rand.Rand) []api.MgCheck {
	checks := make([]api.MgCheck, r.IntN(4))
	if r.IntN(10) == 0 {
		checks = make([]api.MgCheck, r.IntN(34))
	}
	for i := range checks {
		checks[i] = api.MgCheck{Hour: wild(r, 1000), Volt: between(r, 900, 1000), Passed: r.IntN(2) == 0}
	}
	return checks
}

// copyKind returns a copy of a kind that shares no memory with it.
func copyKind(k api.MgKind) api.MgKind {
	k.Steps = slices.Clone(k.Steps)
	return k
}

// copyRack returns a copy of a rack that shares no memory with it.
func copyRack(rack []api.MgValve) []api.MgValve {
	var copied []api.MgValve
	for _, v := range rack {
		copied = append(copied, api.MgValve{Kind: copyKind(v.Kind), Checks: slices.Clone(v.Checks)})
	}
	return copied
}

// sameKind says whether two kinds are equal.
func sameKind(a, b api.MgKind) bool {
	return a.New == b.New && a.Wear == b.Wear && slices.Equal(a.Steps, b.Steps)
}

// sameRack says whether two racks are equal.
func sameRack(a, b []api.MgValve) bool {
	return slices.EqualFunc(a, b, func(a, b api.MgValve) bool {
		return sameKind(a.Kind, b.Kind) && slices.Equal(a.Checks, b.Checks)
	})
}

// P3.14, P1: any arguments are accepted, and not modified.
func TestAnyArguments(t *testing.T) {
	r := rand.New(rand.NewPCG(61, 62))
	errors := map[api.Errno]int{}
	for range 6000 {
		k, checks := wildKind(r), wildChecks(r)
		volt, hour, until := wild(r, api.All), wild(r, 2000), wild(r, 4000)
		spans := make([]api.Span, r.IntN(14))
		for i := range spans {
			spans[i] = wildSpan(r, api.MaxMgUnit)
		}
		rack := make([]api.MgValve, r.IntN(4))
		if r.IntN(20) == 0 {
			rack = make([]api.MgValve, r.IntN(15))
		}
		for i := range rack {
			rack[i] = api.MgValve{Kind: wildKind(r), Checks: wildChecks(r)}
		}
		nights := make([]int, r.IntN(5))
		for i := range nights {
			nights[i] = wild(r, 4000)
		}
		if r.IntN(3) > 0 {
			slices.Sort(nights)
		}
		k2, checks2, spans2, rack2, nights2 := copyKind(k), slices.Clone(checks), slices.Clone(spans), copyRack(rack), slices.Clone(nights)
		margin.Check(k)
		margin.Need(k, volt)
		margin.Now(k, checks, hour)
		margin.Fails(k, checks, hour)
		margin.Life(k, wild(r, 8))
		margin.Next(k, checks, hour)
		margin.Group(k, spans, volt, r.IntN(2) == 0)
		_, e := margin.Replace(rack, nights, hour, until)
		errors[e]++
		if !sameKind(k, k2) || !slices.Equal(checks, checks2) || !slices.Equal(spans, spans2) || !sameRack(rack, rack2) || !slices.Equal(nights, nights2) {
			t.Fatal("an argument was modified")
		}
	}
	for _, e := range []api.Errno{api.OK, api.ErrArg, api.ErrLong, api.ErrRange, api.ErrDown} {
		if errors[e] < 20 {
			t.Errorf("Replace returns %d only %d times", e, errors[e])
		}
	}
}

// P3.14: checks that are not in the order of hours stay as they are.
func TestChecksStay(t *testing.T) {
	checks := []api.MgCheck{failed(200, 800), passed(200, 900), passed(100, 800)}
	want := slices.Clone(checks)
	margin.Now(kindK(), checks, 250)
	margin.Fails(kindK(), checks, 250)
	margin.Next(kindK(), checks, 250)
	margin.Replace([]api.MgValve{{Kind: kindK(), Checks: checks}}, []int{260}, 250, 300)
	if !slices.Equal(checks, want) {
		t.Errorf("checks are %v", checks)
	}
}

// P3.14: results are new memory: what is written into one of them changes neither an argument, nor another result.
func TestNewMemory(t *testing.T) {
	for _, c := range []struct {
		volt   int
		passed bool
	}{{900, false}, {800, false}, {900, true}, {1000, true}} {
		spans := []api.Span{span(350, 649), span(600, 900)}
		after, suspects, _ := margin.Group(kindK(), spans, c.volt, c.passed)
		want, who := slices.Clone(after), slices.Clone(suspects)
		if len(after) != 2 {
			t.Errorf("Group at %d = %v", c.volt, after)
		}
		clear(after)
		clear(suspects)
		again, suspects, _ := margin.Group(kindK(), spans, c.volt, c.passed)
		if !slices.Equal(spans, []api.Span{span(350, 649), span(600, 900)}) || !slices.Equal(again, want) || !slices.Equal(suspects, who) {
			t.Errorf("at %d the spans are %v; again Group = %v, %v", c.volt, spans, again, suspects)
		}
	}
	nights := []int{100, 200, 300, 400, 500}
	plan, _ := margin.Replace(rackOf(kindK(), kindK(), kindK()), nights, 0, 600)
	for i := range plan {
		night := plan[i]
		_ = append(night[:0:cap(night)], slices.Repeat([]int{99}, cap(night))...)
		for k := i + 1; k < len(plan); k++ {
			if slices.Contains(plan[k], 99) {
				t.Errorf("the nights %d and %d share memory", i, k)
			}
		}
	}
	if again, _ := margin.Replace(rackOf(kindK(), kindK(), kindK()), nights, 0, 600); !samePlan(again, [][]int{nil, {0, 1, 2}, nil, {0, 1, 2}, nil}) {
		t.Errorf("again Replace = %v", again)
	}
}
