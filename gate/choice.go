package gate

import (
	"iter"
	"slices"

	"quicksilver/api"
)

// apart is which nets are told apart: the bit k of the word i says whether the nets i and k are. The net 0 is the one without a fault, the net i + 1 the one with the fault i.
type apart [api.MaxGaFaults + 1]uint64

// Table returns for each test which faults it finds.
func Table(n api.GaNet, faults []api.GaFault, tests [][]int) ([][]bool, api.Errno) {
	if e := errorOfTests(n, faults, tests); e != api.OK {
		return nil, e
	}
	var table [][]bool
	for _, told := range toldApart(n, faults, tests) {
		finds := make([]bool, len(faults))
		for i := range finds {
			finds[i] = told[0]>>(i+1)&1 == 1
		}
		table = append(table, finds)
	}
	return table, api.OK
}

// Fewest returns the fewest tests that find all faults that some test finds.
func Fewest(n api.GaNet, faults []api.GaFault, tests [][]int) ([]int, api.Errno) {
	if e := errorOfTests(n, faults, tests); e != api.OK {
		return nil, e
	}
	var found []uint64
	for _, told := range toldApart(n, faults, tests) {
		found = append(found, told[0])
	}
	return fewest(found, func(a, b uint64) uint64 { return a | b }), api.OK
}

// Tell returns the fewest tests that tell apart all that some test tells apart.
func Tell(n api.GaNet, faults []api.GaFault, tests [][]int) ([]int, api.Errno) {
	if e := errorOfTests(n, faults, tests); e != api.OK {
		return nil, e
	}
	both := func(a, b apart) apart {
		for i := range a {
			a[i] |= b[i]
		}
		return a
	}
	return fewest(toldApart(n, faults, tests), both), api.OK
}

// Can returns which faults there can be by the results of tests (-1: none).
func Can(n api.GaNet, faults []api.GaFault, tests, results [][]int) ([]int, api.Errno) {
	if e := errorOfTests(n, faults, tests); e != api.OK {
		return nil, e
	}
	sameLength := func(test, result []int) bool { return len(test) == len(result) }
	if !slices.EqualFunc(tests, results, sameLength) {
		return nil, api.ErrArg
	}
	ruledOut := make([]bool, len(faults)+1)
	for t, test := range tests {
		for k, outputs := range answers(n, faults, test) {
			ruledOut[k] = ruledOut[k] || !slices.Equal(outputs, results[t])
		}
	}
	var can []int
	for k, out := range ruledOut {
		if !out {
			can = append(can, k-1)
		}
	}
	return can, api.OK
}

// errorOfTests returns the error of a net, of faults and of tests.
func errorOfTests(n api.GaNet, faults []api.GaFault, tests [][]int) api.Errno {
	if e := errorOfNet(n); e != api.OK {
		return e
	}
	if len(faults) > api.MaxGaFaults || len(tests) > api.MaxGaTests {
		return api.ErrLong
	}
	for _, f := range faults {
		if e := errorOfFault(n, f); e != api.OK {
			return e
		}
	}
	for _, test := range tests {
		if e := errorOfInputs(n, test); e != api.OK {
			return e
		}
	}
	return api.OK
}

// toldApart returns for each test which nets it tells apart.
func toldApart(n api.GaNet, faults []api.GaFault, tests [][]int) []apart {
	all := make([]apart, len(tests))
	for t, test := range tests {
		outputs := answers(n, faults, test)
		for i := range outputs {
			for k := range outputs {
				if !slices.Equal(outputs[i], outputs[k]) {
					all[t][i] |= 1 << k
				}
			}
		}
	}
	return all
}

// fewest returns the fewest tests that tell all that the tests tell together, if both returns what two of them do.
func fewest[F comparable](tell []F, both func(a, b F) F) []int {
	together := func(tests []int) F {
		var all F
		for _, t := range tests {
			all = both(all, tell[t])
		}
		return all
	}
	all := together(numbersBelow(len(tell)))
	for tests := range choices(len(tell)) {
		if together(tests) == all {
			return tests
		}
	}
	return nil
}

// choices yields every choice of the numbers below n, ascending: the ones of fewer numbers first, and those of as many compared number by number.
func choices(n int) iter.Seq[[]int] {
	return func(yield func([]int) bool) {
		for size := range n + 1 {
			chosen := numbersBelow(size)
			for more := true; more; more = advance(chosen, n) {
				if !yield(slices.Clone(chosen)) {
					return
				}
			}
		}
	}
}

// advance turns a choice of the numbers below n into the next one of as many, if there is one.
func advance(chosen []int, n int) bool {
	size := len(chosen)
	for i := size - 1; i >= 0; i-- {
		if chosen[i] == n-size+i {
			continue
		}
		chosen[i]++
		for j := i + 1; j < size; j++ {
			chosen[j] = chosen[j-1] + 1
		}
		return true
	}
	return false
}
