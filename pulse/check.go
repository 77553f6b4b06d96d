package pulse

import "quicksilver/api"

// errorOf returns the error of a state.
func errorOf(s api.PuState) api.Errno {
	_, _, e := Check(s)
	return e
}

// areStated says whether the numbers of a state, but those in its lists, are in their ranges.
func areStated(s api.PuState) bool {
	return within(len(s.Tape), s.Taken) &&
		within(api.MaxOrTime, s.Clock) &&
		within(api.OrStore-1, s.At) &&
		within(api.PuWrite, s.Phase) &&
		within(api.OrWord-1, s.Order, s.Operand, s.Other) &&
		-productHalf <= s.Product && s.Product < productHalf &&
		within(api.OrMulTime, s.Count) &&
		within(s.Clock, s.Done) &&
		within(api.OrLate, s.Why)
}

// belong says whether the count and the order of a state belong to its phase.
func belong(s api.PuState) bool {
	if (s.Phase == api.PuCount) != (s.Count > 0) {
		return false
	}
	op := orderOf(s.Order).Op
	switch s.Phase {
	case api.PuFrom:
		return reads(op) && (op != api.OrPrint || len(s.Printed) < api.MaxOrPrints)
	case api.PuTo:
		return writes(op) && (op != api.OrRead || s.Taken < len(s.Tape))
	case api.PuCount, api.PuWrite:
		return op == api.OrMul
	}
	return true // In PuFetch the order is an old one.
}

// reads says whether an order waits for the word at From.
func reads(op int) bool { return op != api.OrHalt && op != api.OrRead }

// writes says whether an order waits for the word at To.
func writes(op int) bool {
	return op != api.OrHalt && op != api.OrTest && op != api.OrPrint
}

// errorOfPulses returns the error of a state of pulses.
func errorOfPulses(b api.PuBits) api.Errno {
	if !areLines(b.Lines) || len(b.Now.Store) > 0 {
		return api.ErrLong
	}
	if e := errorOf(withStore(b.Now, wordsOf(b.Lines))); e != api.OK {
		return e
	}
	// A carry comes from a beat before.
	if !within(api.OrBits-1, b.Beat) || !within(min(1, b.Beat), b.Carry) || !within(1<<b.Beat-1, b.Sum) {
		return api.ErrRange
	}
	return api.OK
}

// areLines says whether there are as many lines, and pulses in each of them, as stated.
func areLines(lines [][]bool) bool {
	if len(lines) != api.OrLines {
		return false
	}
	for _, line := range lines {
		if len(line) != api.OrPlaces*api.OrBits {
			return false
		}
	}
	return true
}

// within says whether all numbers are from 0 to a greatest one.
func within(greatest int, numbers ...int) bool {
	for _, n := range numbers {
		if n < 0 || n > greatest {
			return false
		}
	}
	return true
}
