package gate

import (
	"math"
	"slices"

	"quicksilver/api"
)

// Differ returns the shortest inputs by which two nets differ.
func Differ(a, b api.GaNet) ([]int, api.Errno) {
	if e := errorOfNet(a); e != api.OK {
		return nil, e
	}
	if e := errorOfNet(b); e != api.OK {
		return nil, e
	}
	if a.Inputs != b.Inputs || len(a.Outputs) != len(b.Outputs) {
		return nil, api.ErrArg
	}
	return shortest(forEachInput(a), forEachInput(b))
}

// Show returns the shortest inputs that show a fault.
func Show(n api.GaNet, f api.GaFault) ([]int, api.Errno) {
	if e := errorOfNet(n); e != api.OK {
		return nil, e
	}
	if e := errorOfFault(n, f); e != api.OK {
		return nil, e
	}
	faulty := forEachInput(n)
	faulty.stick(f, math.MaxUint64)
	return shortest(forEachInput(n), faulty)
}

// forEachInput returns as many nets as there are inputs, which try one each.
func forEachInput(n api.GaNet) *work { return start(n, 1<<n.Inputs) }

// each does a beat from a state on with each of all inputs, and returns for each of them the state and the output.
func (w *work) each(state int) (next, outputs []int) {
	w.set(slices.Repeat([]int{state}, w.count))
	outputs = w.beat(numbersBelow(w.count))
	return w.states(), outputs
}

// pair is the states of two nets.
type pair struct{ a, b int }

// meeting is how a pair of states was met first: by an input after an earlier meeting.
type meeting struct {
	pair
	before, input int
}

// shortest returns the shortest inputs by which two nets for each input differ.
func shortest(a, b *work) ([]int, api.Errno) {
	// Pairs are met in the order of the least inputs that lead to them, shorter ones first: so the first difference has the inputs that are asked for.
	meetings := []meeting{{}}
	met := map[pair]bool{{}: true}
	var inputs []int
search:
	for at := 0; at < len(meetings); at++ {
		nextA, outputsA := a.each(meetings[at].a)
		nextB, outputsB := b.each(meetings[at].b)
		for input := range outputsA {
			if outputsA[input] != outputsB[input] {
				inputs = append(inputsUpTo(meetings, at), input)
				break search
			}
			next := pair{nextA[input], nextB[input]}
			if !met[next] {
				met[next] = true
				meetings = append(meetings, meeting{pair: next, before: at, input: input})
			}
		}
	}
	if len(inputs) == 0 {
		return nil, api.ErrDown
	}
	return inputs, api.OK
}

// inputsUpTo returns the inputs that lead from the first meeting to another one.
func inputsUpTo(meetings []meeting, at int) []int {
	var inputs []int
	for at > 0 {
		inputs = append(inputs, meetings[at].input)
		at = meetings[at].before
	}
	slices.Reverse(inputs)
	return inputs
}

// numbersBelow returns the numbers from 0 and below n.
func numbersBelow(n int) []int {
	numbers := make([]int, n)
	for i := range numbers {
		numbers[i] = i
	}
	return numbers
}
