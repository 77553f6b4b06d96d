package gate_test

import (
	"math/rand/v2"
	"slices"
	"testing"

	"quicksilver/api"
	"quicksilver/gate"
)

// exampleFaults and exampleTests are those of the chapter's examples.
func exampleFaults() []api.GaFault {
	return []api.GaFault{stuck(7, 0), stuck(2, 1), stuck(6, 0), stuck(4, 0)}
}

func exampleTests() [][]int { return [][]int{{3, 0}, {0}, {3, 1, 0}} }

// sameTable says whether two tables are equal.
func sameTable(a, b [][]bool) bool { return slices.EqualFunc(a, b, slices.Equal[[]bool]) }

// P2.5: the examples, and the edges.
func TestChoices(t *testing.T) {
	inputs := []api.GaFault{stuck(0, 0), stuck(1, 0)}
	for i, c := range []struct {
		faults    []api.GaFault
		tests     [][]int
		table     [][]bool
		few, tell []int
	}{
		{exampleFaults(), exampleTests(), [][]bool{{true, true, false, true}, {false, true, false, false}, {true, true, true, true}}, []int{2}, []int{0, 2}},
		// The test 0 finds nothing; of tests that do as well, the first one is taken.
		{inputs, [][]int{{0}, {1}, {1}, {2}}, [][]bool{{false, false}, {true, false}, {true, false}, {false, true}}, []int{1, 3}, []int{1, 3}},
		{inputs, [][]int{{1}, {3, 2}, {2, 1}, {2}}, [][]bool{{true, false}, {true, true}, {true, true}, {false, true}}, []int{1}, []int{1}},
		// An empty test; tests that find nothing.
		{inputs, [][]int{nil, {0}}, [][]bool{{false, false}, {false, false}}, nil, nil},
		{nil, exampleTests(), [][]bool{nil, nil, nil}, nil, nil},
		{exampleFaults(), nil, nil, nil, nil},
		{nil, nil, nil, nil, nil},
		// A fault that is named twice is told apart from no other one by this.
		{[]api.GaFault{stuck(7, 0), stuck(7, 0)}, exampleTests(), [][]bool{{true, true}, {false, false}, {true, true}}, []int{0}, []int{0}},
		{make([]api.GaFault, 12), slices.Repeat([][]int{{1}}, 10), slices.Repeat([][]bool{slices.Repeat([]bool{true}, 12)}, 10), []int{0}, []int{0}},
	} {
		table, e := gate.Table(gate.Adder(), c.faults, c.tests)
		if !sameTable(table, c.table) || e != api.OK {
			t.Errorf("%d: Table = %v, %d", i, table, e)
		}
		if l, e := gate.Fewest(gate.Adder(), c.faults, c.tests); !slices.Equal(l, c.few) || e != api.OK {
			t.Errorf("%d: Fewest = %v, %d", i, l, e)
		}
		if l, e := gate.Tell(gate.Adder(), c.faults, c.tests); !slices.Equal(l, c.tell) || e != api.OK {
			t.Errorf("%d: Tell = %v, %d", i, l, e)
		}
	}
}

// P2.5, P2.6: the errors in their order; the results come after all of them.
func TestErrorsOfTests(t *testing.T) {
	for i, c := range []struct {
		faults []api.GaFault
		tests  [][]int
		e      api.Errno
	}{
		{make([]api.GaFault, 12), make([][]int, 10), api.OK},
		{slices.Repeat([]api.GaFault{stuck(8, 2)}, 13), nil, api.ErrLong},
		{[]api.GaFault{stuck(8, 2)}, make([][]int, 11), api.ErrLong},
		{make([]api.GaFault, 13), [][]int{{4}}, api.ErrLong},
		{nil, slices.Repeat([][]int{{4}}, 11), api.ErrLong},
		{[]api.GaFault{stuck(0, 0), stuck(8, 2), stuck(0, 2)}, [][]int{{4}}, api.ErrNone},
		{[]api.GaFault{stuck(0, 0), stuck(0, 2), stuck(8, 0)}, [][]int{make([]int, 33)}, api.ErrRange},
		{[]api.GaFault{stuck(0, -1)}, nil, api.ErrRange},
		{[]api.GaFault{stuck(-1, 0)}, nil, api.ErrNone},
		{nil, [][]int{{0}, slices.Repeat([]int{4}, 33), {4}}, api.ErrLong},
		{nil, [][]int{{0}, {0, 4}, make([]int, 33)}, api.ErrRange},
		{nil, [][]int{{-1}}, api.ErrRange},
		{nil, [][]int{make([]int, 32)}, api.OK},
	} {
		table, e1 := gate.Table(gate.Adder(), c.faults, c.tests)
		few, e2 := gate.Fewest(gate.Adder(), c.faults, c.tests)
		tell, e3 := gate.Tell(gate.Adder(), c.faults, c.tests)
		if e1 != c.e || e2 != c.e || e3 != c.e || c.e != api.OK && len(table)+len(few)+len(tell) != 0 {
			t.Errorf("%d: Table = %v, %d; Fewest = %v, %d; Tell = %v, %d", i, table, e1, few, e2, tell, e3)
		}
		if c.e == api.OK {
			continue
		}
		if can, e := gate.Can(gate.Adder(), c.faults, c.tests, [][]int{{7}}); e != c.e || len(can) != 0 {
			t.Errorf("%d: Can = %v, %d", i, can, e)
		}
	}
}

// P2.6: the examples, and the errors.
func TestCan(t *testing.T) {
	for i, c := range []struct {
		tests, results [][]int
		want           []int
		e              api.Errno
	}{
		{[][]int{{3, 0}, {3, 1, 0}}, [][]int{{0, 0}, {0, 0, 0}}, []int{3}, api.OK},
		{[][]int{{3, 0}}, [][]int{{0, 0}}, []int{0, 3}, api.OK},
		{exampleTests(), [][]int{{0, 1}, {0}, {0, 0, 1}}, []int{-1}, api.OK},
		{[][]int{{0}}, [][]int{{0}}, []int{-1, 0, 2, 3}, api.OK},
		{[][]int{{0}}, [][]int{{1}}, []int{1}, api.OK},
		{[][]int{{0}}, [][]int{{-1}}, nil, api.OK},
		{[][]int{{0}}, [][]int{{2}}, nil, api.OK},
		{[][]int{{0}, {0}}, [][]int{{0}, {1}}, nil, api.OK},
		{[][]int{nil}, [][]int{nil}, []int{-1, 0, 1, 2, 3}, api.OK},
		{nil, nil, []int{-1, 0, 1, 2, 3}, api.OK},
		{[][]int{{0}}, nil, nil, api.ErrArg},
		{nil, [][]int{{0}}, nil, api.ErrArg},
		{[][]int{{0}}, [][]int{{0}, {0}}, nil, api.ErrArg},
		{[][]int{{0}, {0}}, [][]int{{7}, {0, 0}}, nil, api.ErrArg},
		{[][]int{{0}, {0, 0}}, [][]int{{0}, {0}}, nil, api.ErrArg},
	} {
		if l, e := gate.Can(gate.Adder(), exampleFaults(), c.tests, c.results); !slices.Equal(l, c.want) || e != c.e {
			t.Errorf("%d: Can = %v, %d", i, l, e)
		}
	}
	if l, e := gate.Can(gate.Adder(), nil, [][]int{{3, 0}}, [][]int{{0, 1}}); !slices.Equal(l, []int{-1}) || e != api.OK {
		t.Errorf("Can = %v, %d", l, e)
	}
	if l, e := gate.Can(gate.Adder(), nil, [][]int{{3, 0}}, [][]int{{0, 0}}); len(l) != 0 || e != api.OK {
		t.Errorf("Can = %v, %d", l, e)
	}
}

// someTests returns a net, faults of it, and tests, of which some find little.
func someTests(r *rand.Rand) (n api.GaNet, faults []api.GaFault, tests [][]int) {
	n = someNet(r, between(r, 1, 6), 16, 3)
	for len(n.Outputs) < 4 {
		n.Outputs = append(n.Outputs, late(r, n.Inputs+len(n.Gates)))
	}
	for range max(r.IntN(13), r.IntN(13)) {
		faults = append(faults, someFault(r, n))
	}
	for range max(r.IntN(8), r.IntN(8)) {
		tests = append(tests, someInputs(r, n, r.IntN(3)))
	}
	return n, faults, tests
}

// outputsOf returns the outputs of a test without a fault, and then those with each fault, by the definition.
func outputsOf(n api.GaNet, faults []api.GaFault, test []int) [][]int {
	outputs := [][]int{byDefinition(n, test)}
	for _, f := range faults {
		outputs = append(outputs, byDefinition(n, test, f))
	}
	return outputs
}

// best tries all sets of tests, and returns the list of the fewest that do just as much as all of them; of several the first one.
func best(tests int, does func(test, i int) bool, things int) []int {
	covers := func(set int) []bool {
		done := make([]bool, things)
		for t := range tests {
			for i := range done {
				done[i] = done[i] || set>>t&1 == 1 && does(t, i)
			}
		}
		return done
	}
	all := covers(1<<tests - 1)
	var least []int
	for set := 1<<tests - 1; set >= 0; set-- {
		if !slices.Equal(covers(set), all) {
			continue
		}
		var list []int
		for t := range tests {
			if set>>t&1 == 1 {
				list = append(list, t)
			}
		}
		if set == 1<<tests-1 || len(list) < len(least) || len(list) == len(least) && slices.Compare(list, least) < 0 {
			least = list
		}
	}
	return least
}

// P2.5, P2.10: Table says what the outputs say, and Fewest and Tell return the best of all sets of tests.
func TestChoicesByDefinition(t *testing.T) {
	r := rand.New(rand.NewPCG(61, 62))
	several, different := 0, 0
	for range 800 {
		n, faults, tests := someTests(r)
		outputs := make([][][]int, len(tests))
		for i, test := range tests {
			outputs[i] = outputsOf(n, faults, test)
		}
		apart := func(test, i, k int) bool { return !slices.Equal(outputs[test][i], outputs[test][k]) }
		table, e := gate.Table(n, faults, tests)
		if len(table) != len(tests) || e != api.OK {
			t.Fatalf("Table = %v, %d", table, e)
		}
		for i, row := range table {
			if len(row) != len(faults) {
				t.Fatalf("Table = %v", table)
			}
			for k, finds := range row {
				if finds != apart(i, 0, k+1) {
					t.Fatalf("Table of %v, %v, %v = %v", n, faults, tests, table)
				}
			}
		}
		nets := len(faults) + 1
		few := best(len(tests), func(test, i int) bool { return apart(test, 0, i) }, nets)
		if l, e := gate.Fewest(n, faults, tests); !slices.Equal(l, few) || e != api.OK {
			t.Fatalf("Fewest of %v, %v, %v = %v, %d; not %v", n, faults, tests, l, e, few)
		}
		tell := best(len(tests), func(test, i int) bool { return apart(test, i/nets, i%nets) }, nets*nets)
		if l, e := gate.Tell(n, faults, tests); !slices.Equal(l, tell) || e != api.OK {
			t.Fatalf("Tell of %v, %v, %v = %v, %d; not %v", n, faults, tests, l, e, tell)
		}
		if len(few) > 1 {
			several++
		}
		if len(tell) > len(few) {
			different++
		}
	}
	if several < 100 || different < 20 {
		t.Errorf("only %d choices are of several tests, and %d tell apart more than they find", several, different)
	}
}

// P2.5: ten tests of which all are needed, as each of them finds another fault alone; and of which all but one are.
func TestManyTestsAreNeeded(t *testing.T) {
	// The last output is 1 from the second beat on, whatever the inputs are.
	n := api.GaNet{Inputs: 6, Gates: []api.GaGate{g(1, 0, 1), g(1, 2, 3), g(1, 4, 5), g(4, 0, 0), g(2, 0, 9), g(5, 10, 0)}, Outputs: []int{6, 7, 8, 11}}
	faults := []api.GaFault{stuck(0, 1), stuck(1, 1), stuck(6, 0), stuck(2, 1), stuck(3, 1), stuck(7, 0), stuck(4, 1), stuck(5, 1), stuck(8, 0), stuck(11, 0)}
	tests := [][]int{{2}, {1}, {3}, {8}, {4}, {12}, {32}, {16}, {48}, {0, 0}}
	table, e := gate.Table(n, faults, tests)
	for i, row := range table {
		for k, finds := range row {
			if finds != (i == k) || e != api.OK {
				t.Fatalf("Table = %v, %d", table, e)
			}
		}
	}
	check := func(want []int) {
		few, e := gate.Fewest(n, faults, tests)
		tell, f := gate.Tell(n, faults, tests)
		if !slices.Equal(few, want) || !slices.Equal(tell, want) || e != api.OK || f != api.OK {
			t.Errorf("Fewest = %v, %d; Tell = %v, %d; not %v", few, e, tell, f, want)
		}
	}
	check([]int{0, 1, 2, 3, 4, 5, 6, 7, 8, 9})
	tests[4] = []int{0}
	check([]int{0, 1, 2, 3, 5, 6, 7, 8, 9})
}

// P2.12: the fault that there is can be, and -1 if there is none; a further test adds nothing.
func TestCanInEveryTruth(t *testing.T) {
	r := rand.New(rand.NewPCG(63, 64))
	for range 120 {
		n, faults, tests := someTests(r)
		for truth := -1; truth < len(faults); truth++ {
			var results [][]int
			before := []int{-1}
			for i := range faults {
				before = append(before, i)
			}
			for done := range len(tests) + 1 {
				can, e := gate.Can(n, faults, tests[:done], results)
				if !slices.Contains(can, truth) || !slices.IsSorted(can) || e != api.OK {
					t.Fatalf("Can of %v, %v, %v, %v = %v, %d; %d is true", n, faults, tests[:done], results, can, e, truth)
				}
				for _, i := range can {
					if !slices.Contains(before, i) {
						t.Fatalf("%d is added to %v", i, before)
					}
				}
				for _, i := range before {
					if same := slices.EqualFunc(tests[:done], results, func(test, result []int) bool {
						return slices.Equal(outputsOf(n, faults, test)[i+1], result)
					}); same != slices.Contains(can, i) {
						t.Fatalf("Can = %v; %d is %v", can, i, same)
					}
				}
				before = can
				if done < len(tests) {
					results = append(results, outputsOf(n, faults, tests[done])[truth+1])
				}
			}
		}
	}
}
