package margin

import (
	"cmp"
	"slices"

	"quicksilver/api"
)

// valve is a valve that is looked at: its kind, the hour, and which strengths it can have then.
type valve struct {
	api.MgKind
	hour int
	can  api.Span
}

// fresh returns a valve that is new at an hour.
func fresh(k api.MgKind, hour int) valve {
	return valve{MgKind: k, hour: hour, can: api.Span{Lo: k.New, Hi: k.New}}
}

// lookAt returns a valve at an hour, after its checks.
func lookAt(k api.MgKind, checks []api.MgCheck, hour int) (valve, api.Errno) {
	if e := Check(k); e != api.OK {
		return valve{}, e
	}
	if e := errorOfChecks(k, checks); e != api.OK {
		return valve{}, e
	}
	v := fresh(k, 0)
	pass := func(until int) {
		v.can = v.after(until - v.hour)
		v.hour = until
	}
	for _, c := range inOrder(checks, ordering[api.MgCheck]{by: hourOf}) {
		pass(c.Hour)
		v.can = common(v.can, agree(needAt(k, c.Volt), c.Passed))
		if v.can == nothing() {
			return valve{}, api.ErrDown
		}
	}
	if e := errorOfHours(hour); e != api.OK {
		return valve{}, e
	}
	if v.hour > hour {
		return valve{}, api.ErrArg
	}
	pass(hour)
	return v, api.OK
}

// ordering is the number of a thing by which things are put in order.
type ordering[T any] struct{ by func(T) int }

// inOrder returns a list in an order.
func inOrder[T any](list []T, o ordering[T]) []T {
	sorted := slices.Clone(list)
	slices.SortStableFunc(sorted, func(a, b T) int { return cmp.Compare(o.by(a), o.by(b)) })
	return sorted
}

func hourOf(c api.MgCheck) int { return c.Hour }

// after returns which strengths a valve can have after some hours.
func (v valve) after(hours int) api.Span {
	// Any wear between both is possible in each hour, so that there is no gap between the ends.
	return api.Span{Lo: max(0, v.can.Lo-hours*v.Wear.Hi), Hi: max(0, v.can.Hi-hours*v.Wear.Lo)}
}

// fails returns when a valve can be below what it needs, and when it surely is, from its hour on.
func (v valve) fails() api.MgFail {
	return api.MgFail{
		Earliest: v.firstBelow(v.can.Lo, v.Wear.Hi),
		Latest:   v.firstBelow(v.can.Hi, v.Wear.Lo),
	}
}

// firstBelow returns the first hour at which a strength that falls by the same wear in each hour is below what is needed (-1: never).
func (v valve) firstBelow(strength, wear int) int {
	need := needAt(v.MgKind, api.All)
	if strength < need {
		return v.hour
	}
	// A strength is never below 0.
	if need == 0 || wear == 0 {
		return -1
	}
	return v.hour + (strength-need)/wear + 1
}

// widest returns the greatest width that a result of a check, of those that it can have, leaves.
func (v valve) widest(need int) int {
	width := 0
	for _, passed := range []bool{true, false} {
		if left := common(v.can, agree(need, passed)); left != nothing() {
			width = max(width, left.Hi-left.Lo)
		}
	}
	return width
}

// needAt returns what a valve needs at a voltage of its kind.
func needAt(k api.MgKind, volt int) int {
	at := slices.IndexFunc(k.Steps, func(s api.MgStep) bool { return s.Volt <= volt })
	return k.Steps[at].Need
}

// nothing is the span without any strength.
func nothing() api.Span { return api.Span{Lo: 0, Hi: -1} }

// common returns the strengths that are in both of two spans.
func common(a, b api.Span) api.Span {
	both := api.Span{Lo: max(a.Lo, b.Lo), Hi: min(a.Hi, b.Hi)}
	if both.Lo > both.Hi {
		return nothing()
	}
	return both
}

// agree returns the strengths with which the result of a check agrees.
func agree(need int, passed bool) api.Span {
	if passed {
		return api.Span{Lo: need, Hi: api.MaxMgUnit}
	}
	return api.Span{Lo: 0, Hi: need - 1}
}
