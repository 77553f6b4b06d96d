package line

import (
	"iter"

	"quicksilver/api"
)

// moment is what decides about the next minute of an oven: its temperature, and whether it heated in the minute before.
type moment struct {
	temp   int
	heated bool
}

// Oven returns at which temperatures an oven can be.
func Oven(o api.LnOven, temp api.Span, heats bool, minutes int) (api.Span, api.Errno) {
	if e := errorOfOven(o, temp, minutes); e != api.OK {
		return api.Span{}, e
	}
	temps := func(yield func(int) bool) {
		for _, m := range moments(o, temp, heats, minutes) {
			if !yield(m.temp) {
				return
			}
		}
	}
	coldest, warmest, _ := ends(temps)
	return api.Span{Lo: coldest, Hi: warmest}, api.OK
}

// Keeps returns after how many minutes a line in an oven may not be safe.
func Keeps(l api.LnLine, o api.LnOven, temp api.Span, heats bool, minutes int) (int, api.Errno) {
	if e := Check(l); e != api.OK {
		return 0, e
	}
	if e := errorOfOven(o, temp, minutes); e != api.OK {
		return 0, e
	}
	for after, m := range moments(o, temp, heats, minutes) {
		if !isSafe(l, m.temp) {
			return after, api.OK
		}
	}
	return -1, api.OK
}

// errorOfOven returns the error of an oven, of the temperatures at which it begins, and of the minutes.
func errorOfOven(o api.LnOven, temp api.Span, minutes int) api.Errno {
	stated := isTemp(o.Low) && isTemp(o.High)
	for _, span := range []api.Span{o.Warm, o.Cool} {
		stated = stated && within(span.Lo, 0, api.MaxLnWarm) && within(span.Hi, 0, api.MaxLnWarm)
	}
	if !stated {
		return api.ErrRange
	}
	if o.Low > o.High || o.Warm.Lo > o.Warm.Hi || o.Cool.Lo > o.Cool.Hi {
		return api.ErrArg
	}
	if e := errorOfTemps(temp); e != api.OK {
		return e
	}
	if !within(minutes, 0, api.MaxLnMinutes) {
		return api.ErrRange
	}
	return api.OK
}

// moments yields every moment in which an oven can be after some minutes or fewer, with the least number of minutes after which it can be; these numbers ascend.
func moments(o api.LnOven, temp api.Span, heats bool, minutes int) iter.Seq2[int, moment] {
	return func(yield func(int, moment) bool) {
		minute := minuteOf(o)
		seen := map[moment]bool{}
		var fresh []moment
		reach := func(temps api.Span, heated bool) {
			for t := temps.Lo; t <= temps.Hi; t++ {
				if m := (moment{t, heated}); !seen[m] {
					seen[m] = true
					fresh = append(fresh, m)
				}
			}
		}
		reach(temp, heats)
		for after := 0; after <= minutes && len(fresh) > 0; after++ {
			now := fresh
			// Only what is new is followed: a moment that was seen before has been followed with more minutes left.
			fresh = nil
			for _, m := range now {
				if !yield(after, m) {
					return
				}
				reach(minute(m))
			}
		}
	}
}

// minuteOf returns a minute of an oven: at which temperatures it can be after a moment, and whether it heats until then.
func minuteOf(o api.LnOven) func(m moment) (api.Span, bool) {
	return func(m moment) (api.Span, bool) {
		if m.temp < o.Low || m.temp <= o.High && m.heated {
			return api.Span{Lo: m.temp + o.Warm.Lo, Hi: m.temp + o.Warm.Hi}, true
		}
		return api.Span{Lo: m.temp - o.Cool.Hi, Hi: m.temp - o.Cool.Lo}, false
	}
}
