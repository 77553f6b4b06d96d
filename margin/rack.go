package margin

import (
	"iter"
	"slices"

	"quicksilver/api"
)

// allPassed returns which strengths valves can have if each of them has what is needed.
func allPassed(spans []api.Span, need int) ([]api.Span, api.Errno) {
	var after []api.Span
	for _, s := range spans {
		left := common(s, agree(need, true))
		if left == nothing() {
			return nil, api.ErrDown
		}
		after = append(after, left)
	}
	return after, api.OK
}

// oneFailed returns which strengths valves can have if not each of them has what is needed, and which ones can be without it.
func oneFailed(spans []api.Span, need int) (after []api.Span, suspects []int, e api.Errno) {
	for i, s := range spans {
		if common(s, agree(need, false)) != nothing() {
			suspects = append(suspects, i)
		}
	}
	if len(suspects) == 0 {
		return nil, nil, api.ErrDown
	}
	after = slices.Clone(spans)
	// With two suspects each of them can be as it likes, as the other one can be the one that failed.
	if len(suspects) == 1 {
		only := suspects[0]
		after[only] = common(spans[only], agree(need, false))
	}
	return after, suspects, api.OK
}

// Replace returns which valves are replaced in each night, so that none can fail.
func Replace(rack []api.MgValve, nights []int, from, until int) ([][]int, api.Errno) {
	if len(rack) > api.MaxMgValves || len(nights) > api.MaxMgNights {
		return nil, api.ErrLong
	}
	if e := errorOfNights(nights, from, until); e != api.OK {
		return nil, e
	}
	var valves []valve
	for _, r := range rack {
		v, e := lookAt(r.Kind, r.Checks, from)
		if e != api.OK {
			return nil, e
		}
		valves = append(valves, v)
	}
	return latest(valves, nights, until)
}

// errorOfNights returns the error of nights, and of the first and the last hour of all.
func errorOfNights(nights []int, from, until int) api.Errno {
	if e := errorOfHours(nights...); e != api.OK {
		return e
	}
	if e := errorOfHours(from, until); e != api.OK {
		return e
	}
	for i := 1; i < len(nights); i++ {
		if nights[i] <= nights[i-1] {
			return api.ErrArg
		}
	}
	if from > until {
		return api.ErrArg
	}
	return api.OK
}

// latest returns the latest plan of valves, if it is safe.
func latest(rack []valve, nights []int, until int) (plan [][]int, e api.Errno) {
	defer func() {
		if recover() != nil {
			plan, e = nil, api.ErrDown
		}
	}()
	plan = make([][]int, len(nights))
	for i, v := range rack {
		for night := range v.replaced(nights, until) {
			plan[night] = append(plan[night], i)
		}
	}
	return plan, api.OK
}

// replaced yields in which nights a valve is replaced by the latest plan, from its hour on. It panics if the valve can fail before the next one.
func (v valve) replaced(nights []int, until int) iter.Seq[int] {
	return func(yield func(int) bool) {
		now := v
		next := firstFrom(nights, now.hour)
		for {
			fails := now.fails().Earliest
			if fails == -1 || fails > until {
				return
			}
			end := firstFrom(nights, fails+1)
			if end == next {
				panic(api.ErrDown)
			}
			if !yield(end - 1) {
				return
			}
			now, next = fresh(now.MgKind, nights[end-1]), end
		}
	}
}

// firstFrom returns the first night that is not before an hour, or how many there are if there is none.
func firstFrom(nights []int, hour int) int {
	at, _ := slices.BinarySearch(nights, hour)
	return at
}
