package line

import (
	"iter"

	"quicksilver/api"
)

// Pass returns the words after a round at each of some temperatures.
func Pass(l api.LnLine, words, temps []int) (after []int, at int, e api.Errno) {
	if e = Check(l); e != api.OK {
		return nil, 0, e
	}
	if e = errorOfWords(l, words); e != api.OK {
		return nil, 0, e
	}
	if len(temps) > api.MaxLnRounds {
		return nil, 0, api.ErrLong
	}
	for _, temp := range temps {
		if !isTemp(temp) {
			return nil, 0, api.ErrRange
		}
	}
	pulses := toPulses(l, words)
	for shift, lost := range rounds(l, temps) {
		if lost {
			return make([]int, l.Words), at, api.OK
		}
		pulses = turn(pulses, shift)
		at++
	}
	return toWords(l, pulses), -1, api.OK
}

// rounds yields, for a round at each of some temperatures, by how many beats pulses are late, and whether they are lost.
func rounds(l api.LnLine, temps []int) iter.Seq2[int, bool] {
	return func(yield func(int, bool) bool) {
		for _, temp := range temps {
			shift, lost := shiftAt(l, temp)
			if !yield(shift, lost) {
				return
			}
		}
	}
}

// errorOfWords returns the error of the words of a line.
func errorOfWords(l api.LnLine, words []int) api.Errno {
	if len(words) != l.Words {
		return api.ErrLong
	}
	for _, word := range words {
		if !within(word, 0, 1<<l.Bits-1) {
			return api.ErrRange
		}
	}
	return api.OK
}

// toPulses returns the pulses of words, beat by beat.
func toPulses(l api.LnLine, words []int) []bool {
	pulses := make([]bool, 0, beats(l))
	for _, word := range words {
		for bit := range l.Bits {
			pulses = append(pulses, word>>bit&1 == 1)
		}
	}
	return pulses
}

// toWords returns the words of pulses.
func toWords(l api.LnLine, pulses []bool) []int {
	words := make([]int, l.Words)
	for beat, pulse := range pulses {
		if pulse {
			words[beat/l.Bits] |= 1 << (beat % l.Bits)
		}
	}
	return words
}

// turn returns pulses after each of them has come some beats later.
func turn(pulses []bool, by int) []bool {
	size := len(pulses)
	turned := make([]bool, size)
	by = modulo(by, size)
	// The third index ends each part where the other one begins, so that neither can be written over.
	copy(turned[by:size:size], pulses[:size-by])
	copy(turned[0:by:by], pulses[size-by:])
	return turned
}

// Can returns what can have become of words after rounds at temperatures within spans.
func Can(l api.LnLine, temps []api.Span) (api.LnCan, api.Errno) {
	if e := Check(l); e != api.OK {
		return api.LnCan{}, e
	}
	if len(temps) > api.MaxLnRounds {
		return api.LnCan{}, api.ErrLong
	}
	for _, span := range temps {
		if e := errorOfTemps(span); e != api.OK {
			return api.LnCan{}, e
		}
	}
	var can api.LnCan
	late := make([]bool, beats(l))
	late[0] = true
	for _, span := range temps {
		shifts, lost := shiftsWithin(l, span)
		late = afterRound(late, shifts)
		can.Lost = can.Lost || lost
	}
	for n, possible := range late {
		if possible {
			can.Shifts = append(can.Shifts, n)
		}
	}
	return can, api.OK
}

// errorOfTemps returns the error of a span of temperatures.
func errorOfTemps(s api.Span) api.Errno {
	if !isTemp(s.Lo) || !isTemp(s.Hi) {
		return api.ErrRange
	}
	if s.Lo > s.Hi {
		return api.ErrArg
	}
	return api.OK
}

// shiftsWithin returns all shifts at temperatures of a span, modulo the beats, and whether pulses are lost at one of them.
func shiftsWithin(l api.LnLine, temps api.Span) (shifts map[int]bool, lost bool) {
	shifts = map[int]bool{}
	for temp := temps.Lo; temp <= temps.Hi; temp++ {
		shift, gone := shiftAt(l, temp)
		if gone {
			lost = true
		} else {
			shifts[modulo(shift, beats(l))] = true
		}
	}
	return shifts, lost
}

// afterRound returns by what words can be late after a round with one of some shifts, if late tells it for the time before.
func afterRound(late []bool, shifts map[int]bool) []bool {
	after := make([]bool, len(late))
	for shift := range shifts {
		for n, possible := range turn(late, shift) {
			after[n] = after[n] || possible
		}
	}
	return after
}

// Next returns the next beat in which a word begins to come by.
func Next(l api.LnLine, word, beat int) (int, api.Errno) {
	if e := Check(l); e != api.OK {
		return 0, e
	}
	if !within(word, 0, l.Words-1) || !within(beat, 0, api.MaxLnDelay) {
		return 0, api.ErrRange
	}
	first := beat + 1
	return first + modulo(word*l.Bits-first, beats(l)), api.OK
}
