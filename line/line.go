// Package line is layer 1: names, mercury lines whose pulses come later when they are warmer, ovens, and the words of a line as a file. See shared/doc/01-line.md.
package line

import (
	"cmp"
	"iter"

	"quicksilver/api"
)

// Name reports whether a string is a name.
func Name(s string) bool {
	if len(s) < 1 || len(s) > api.MaxName || !isLetter(s[0]) {
		return false
	}
	// Bytes, not runes: a letter of several bytes is not one of a to z in any of them.
	for i := 1; i < len(s); i++ {
		if !isLetter(s[i]) && !isDigit(s[i]) && s[i] != '_' {
			return false
		}
	}
	return s[len(s)-1] != '_'
}

func isLetter(b byte) bool { return 'a' <= b && b <= 'z' }

func isDigit(b byte) bool { return '0' <= b && b <= '9' }

// Check returns the error of a line.
func Check(l api.LnLine) api.Errno {
	stated := within(l.Words, 1, api.MaxLnWords) &&
		within(l.Bits, 1, api.MaxLnBits) &&
		within(l.Period, 2, api.MaxLnPeriod) &&
		within(l.Delay, 0, api.MaxLnDelay) &&
		within(l.Slope, -api.MaxLnSlope, api.MaxLnSlope) &&
		within(l.Window, 0, (l.Period-1)/2)
	if !stated {
		return api.ErrRange
	}
	return api.OK
}

// Shift returns by how many beats pulses are late at a temperature, or that they are lost.
func Shift(l api.LnLine, temp int) (shift int, lost bool, e api.Errno) {
	if e = Check(l); e != api.OK {
		return 0, false, e
	}
	if !isTemp(temp) {
		return 0, false, api.ErrRange
	}
	shift, lost = shiftAt(l, temp)
	return shift, lost, api.OK
}

// shiftAt is Shift for a line and a temperature that are as stated.
func shiftAt(l api.LnLine, temp int) (shift int, lost bool) {
	late := l.Delay + l.Slope*temp - beats(l)*l.Period
	// Windows do not meet, as each is below half of Period on both sides: what is behind the beginning of the last window by more than a whole one is between two of them.
	behind := modulo(late+l.Window, l.Period)
	if behind > 2*l.Window {
		return 0, true
	}
	return (late + l.Window - behind) / l.Period, false
}

// Safe returns the temperatures at which a line is safe.
func Safe(l api.LnLine) (api.Span, api.Errno) {
	if e := Check(l); e != api.OK {
		return api.Span{}, e
	}
	// What is late changes by the same amount from one temperature to the next, so that there is no gap between the ends.
	coldest, warmest, some := ends(safeTemps(l))
	if !some {
		return api.Span{}, api.ErrDown
	}
	return api.Span{Lo: coldest, Hi: warmest}, api.OK
}

// safeTemps yields the temperatures at which a line is safe.
func safeTemps(l api.LnLine) iter.Seq[int] {
	return func(yield func(int) bool) {
		for temp := api.MinLnTemp; temp <= api.MaxLnTemp; temp++ {
			if isSafe(l, temp) && !yield(temp) {
				return
			}
		}
	}
}

// isSafe reports whether a line is safe at a temperature, which can be out of the range in an oven.
func isSafe(l api.LnLine, temp int) bool {
	if !isTemp(temp) {
		return false
	}
	shift, lost := shiftAt(l, temp)
	return shift == 0 && !lost
}

// beats returns the number of beats of a line.
func beats(l api.LnLine) int { return l.Words * l.Bits }

func isTemp(n int) bool { return within(n, api.MinLnTemp, api.MaxLnTemp) }

func within(n, lo, hi int) bool { return lo <= n && n <= hi }

// modulo returns n modulo m, from 0 on also for an n below 0.
func modulo(n, m int) int {
	n %= m
	if n < 0 {
		n += m
	}
	return n
}

// ends returns the least and the greatest of some values, and whether there are any.
func ends[T cmp.Ordered](values iter.Seq[T]) (least, greatest T, some bool) {
	for v := range values {
		if !some {
			least, greatest, some = v, v, true
		}
		least, greatest = min(least, v), max(greatest, v)
	}
	return least, greatest, some
}
