package gate_test

import (
	"math"
	"math/rand/v2"
	"slices"
	"testing"

	"quicksilver/api"
	"quicksilver/gate"
)

// all calls every function, and returns the slices of their results.
func all(n, other api.GaNet, f api.GaFault, faults []api.GaFault, inputs []int, tests, results [][]int, text string) [][]int {
	gate.Check(n)
	gate.Step(n, f.Signal, f.Stuck)
	gate.Write(n)
	read, _ := gate.Read(text)
	adder := gate.Adder()
	run, _ := gate.Run(n, inputs)
	with, _ := gate.Stuck(n, f, inputs)
	differ, _ := gate.Differ(n, other)
	show, _ := gate.Show(n, f)
	gate.Table(n, faults, tests)
	few, _ := gate.Fewest(n, faults, tests)
	tell, _ := gate.Tell(n, faults, tests)
	can, _ := gate.Can(n, faults, tests, results)
	return [][]int{read.Outputs, adder.Outputs, run, with, differ, show, few, tell, can}
}

// wild returns a number that may be anything.
func wild(r *rand.Rand) int {
	switch r.IntN(12) {
	case 0:
		return math.MinInt
	case 1:
		return math.MaxInt
	case 2:
		return r.Int()
	}
	return between(r, -2, 8)
}

// wildList returns numbers that may be anything.
func wildList(r *rand.Rand, most int) []int {
	list := make([]int, r.IntN(most+1))
	for i := range list {
		list[i] = wild(r)
	}
	return list
}

// wildNet returns what is a net at times.
func wildNet(r *rand.Rand) api.GaNet {
	n := someNet(r, between(r, 1, 6), 24, 5)
	switch r.IntN(6) {
	case 0:
		n.Inputs = wild(r)
	case 1:
		n.Outputs = wildList(r, 6)
	case 2:
		for range between(r, 1, 6) {
			n.Gates = append(n.Gates, g(wild(r), wild(r), wild(r)))
		}
	}
	return n
}

// P2.15: any arguments are accepted, and not modified.
func TestAnyArguments(t *testing.T) {
	r := rand.New(rand.NewPCG(81, 82))
	for range 3000 {
		n, other := wildNet(r), wildNet(r)
		f := stuck(wild(r), wild(r))
		var faults []api.GaFault
		for range r.IntN(15) {
			faults = append(faults, stuck(wild(r), between(r, 0, 1)))
		}
		if r.IntN(2) == 0 {
			faults = []api.GaFault{someFault(r, someNet(r, 1, 1, 0))}
		}
		inputs := wildList(r, 34)
		var tests, results [][]int
		for range r.IntN(12) {
			tests = append(tests, someInputs(r, api.GaNet{Inputs: 1}, 3))
			results = append(results, wildList(r, 3))
		}
		text := make([]byte, r.IntN(700))
		for i := range text {
			text[i] = byte(r.IntN(256))
		}
		n2, other2, faults2, inputs2 := clone(n), clone(other), slices.Clone(faults), slices.Clone(inputs)
		tests2, results2 := copyOf(tests), copyOf(results)
		all(n, other, f, faults, inputs, tests, results, string(text))
		equal := slices.Equal[[]int]
		if !same(n, n2) || !same(other, other2) || !slices.Equal(faults, faults2) || !slices.Equal(inputs, inputs2) || !slices.EqualFunc(tests, tests2, equal) || !slices.EqualFunc(results, results2, equal) {
			t.Fatal("an argument was modified")
		}
	}
}

// copyOf returns a copy of lists that shares no memory with them.
func copyOf(lists [][]int) [][]int {
	var copied [][]int
	for _, list := range lists {
		copied = append(copied, slices.Clone(list))
	}
	return copied
}

// P2.15: results are new memory: what is written into one of them changes neither an argument, nor the result of another call.
func TestNewMemory(t *testing.T) {
	n, other, f := gate.Adder(), gate.Adder(), stuck(7, 0)
	other.Gates[2].Kind = api.GaOr
	inputs, tests, results := []int{3, 1, 0}, exampleTests(), [][]int{{0, 0}, {0}, {0, 0, 0}}
	call := func() [][]int { return all(n, other, f, exampleFaults(), inputs, tests, results, adderText) }
	want := copyOf(call())
	got := call()
	for i, list := range got {
		if len(list) == 0 {
			t.Errorf("the result %d is empty", i)
		}
		for k := range list {
			list[k] = 99
		}
		_ = append(list[:0:cap(list)], slices.Repeat([]int{99}, cap(list))...)
	}
	if again := call(); !slices.EqualFunc(again, want, slices.Equal[[]int]) {
		t.Errorf("after results were written over: %v, not %v", again, want)
	}
	if !slices.Equal(inputs, []int{3, 1, 0}) || !slices.EqualFunc(tests, exampleTests(), slices.Equal[[]int]) || !same(n, gate.Adder()) {
		t.Error("an argument was written over")
	}
	a := gate.Adder()
	clear(a.Gates)
	read, _ := gate.Read(adderText)
	if !same(gate.Adder(), read) {
		t.Errorf("Adder = %v", gate.Adder())
	}
	table, _ := gate.Table(n, exampleFaults(), tests)
	first := slices.Clone(table[1])
	row := table[0]
	_ = append(row[:0:cap(row)], slices.Repeat([]bool{true}, cap(row))...)
	if !slices.Equal(table[1], first) {
		t.Error("rows of a table share memory")
	}
}
