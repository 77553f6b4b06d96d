package gate_test

import (
	"math"
	"math/rand/v2"
	"slices"
	"testing"

	"quicksilver/api"
	"quicksilver/gate"
)

// g is a gate.
func g(kind, a, b int) api.GaGate { return api.GaGate{Kind: kind, A: a, B: b} }

// stuck is a fault.
func stuck(signal, at int) api.GaFault { return api.GaFault{Signal: signal, Stuck: at} }

// one is a net with one input, one output and some gates.
func one(output int, gates ...api.GaGate) api.GaNet {
	return api.GaNet{Inputs: 1, Gates: gates, Outputs: []int{output}}
}

// same says whether two nets are equal.
func same(a, b api.GaNet) bool {
	return a.Inputs == b.Inputs && slices.Equal(a.Gates, b.Gates) && slices.Equal(a.Outputs, b.Outputs)
}

// isZero says whether a net is its zero value.
func isZero(n api.GaNet) bool { return same(n, api.GaNet{}) }

// clone returns a copy of a net that shares no memory with it.
func clone(n api.GaNet) api.GaNet {
	return api.GaNet{Inputs: n.Inputs, Gates: slices.Clone(n.Gates), Outputs: slices.Clone(n.Outputs)}
}

// between returns a number from lo to hi.
func between(r *rand.Rand, lo, hi int) int { return lo + r.IntN(hi-lo+1) }

// someNet returns a net with some inputs, up to some gates and up to some delays.
func someNet(r *rand.Rand, inputs, gates, delays int) api.GaNet {
	n := api.GaNet{Inputs: inputs}
	gates = max(r.IntN(gates+1), r.IntN(gates+1))
	for i := range gates {
		own := inputs + i
		kind := between(r, 1, 5)
		if kind == api.GaDelay && delays == 0 {
			kind = api.GaXor
		}
		switch kind {
		case api.GaDelay:
			delays--
			n.Gates = append(n.Gates, g(kind, late(r, inputs+gates), 0))
		case api.GaNot:
			n.Gates = append(n.Gates, g(kind, late(r, own), 0))
		default:
			n.Gates = append(n.Gates, g(kind, late(r, own), r.IntN(own)))
		}
	}
	for range between(r, 1, 4) {
		n.Outputs = append(n.Outputs, late(r, inputs+gates))
	}
	return n
}

// late returns one of some signals, a late one more often, as it depends on more.
func late(r *rand.Rand, signals int) int { return max(r.IntN(signals), r.IntN(signals)) }

// someInputs returns inputs for some beats of a net.
func someInputs(r *rand.Rand, n api.GaNet, beats int) []int {
	inputs := make([]int, beats)
	for i := range inputs {
		inputs[i] = r.IntN(1 << n.Inputs)
	}
	return inputs
}

// someFault returns a fault of a net.
func someFault(r *rand.Rand, n api.GaNet) api.GaFault {
	return stuck(r.IntN(n.Inputs+len(n.Gates)), r.IntN(2))
}

// delaysOf returns how many delays a net has.
func delaysOf(n api.GaNet) int {
	count := 0
	for _, x := range n.Gates {
		if x.Kind == api.GaDelay {
			count++
		}
	}
	return count
}

// byDefinition returns the outputs of a net with some faults, beat by beat; a delay looks up the beat before, without any state.
func byDefinition(n api.GaNet, inputs []int, faults ...api.GaFault) []int {
	beats := make([][]int, len(inputs))
	outputs := make([]int, len(inputs))
	for t, input := range inputs {
		now := make([]int, n.Inputs+len(n.Gates))
		beats[t] = now
		for s := range now {
			if s < n.Inputs {
				now[s] = input / (1 << s) % 2
			} else {
				x := n.Gates[s-n.Inputs]
				switch {
				case x.Kind == api.GaAnd && now[x.A] == 1 && now[x.B] == 1,
					x.Kind == api.GaOr && now[x.A]+now[x.B] >= 1,
					x.Kind == api.GaXor && now[x.A]+now[x.B] == 1,
					x.Kind == api.GaNot && now[x.A] == 0,
					x.Kind == api.GaDelay && t > 0 && beats[t-1][x.A] == 1:
					now[s] = 1
				}
			}
			for _, f := range faults {
				if f.Signal == s {
					now[s] = f.Stuck
				}
			}
		}
		for i, s := range n.Outputs {
			outputs[t] += now[s] << i
		}
	}
	return outputs
}

// P2.1: Adder, and the errors of Check in their order.
func TestCheck(t *testing.T) {
	want := api.GaNet{Inputs: 2, Gates: []api.GaGate{g(api.GaDelay, 7, 0), g(api.GaXor, 0, 1), g(api.GaXor, 3, 2), g(api.GaAnd, 0, 1), g(api.GaAnd, 3, 2), g(api.GaOr, 5, 6)}, Outputs: []int{4}}
	if a := gate.Adder(); !same(a, want) {
		t.Errorf("Adder = %v", a)
	}
	many := func(count int, x api.GaGate) []api.GaGate { return slices.Repeat([]api.GaGate{x}, count) }
	for i, c := range []struct {
		n        api.GaNet
		part, at int
		e        api.Errno
	}{
		{gate.Adder(), 0, 0, api.OK},
		// The numbers.
		{api.GaNet{}, 1, 0, api.ErrRange},
		{api.GaNet{Inputs: 0, Outputs: []int{0}}, 1, 0, api.ErrRange},
		{api.GaNet{Inputs: 1, Outputs: []int{0}}, 0, 0, api.OK},
		{api.GaNet{Inputs: 6, Outputs: []int{5}}, 0, 0, api.OK},
		{api.GaNet{Inputs: 7, Outputs: []int{0}}, 1, 0, api.ErrRange},
		{api.GaNet{Inputs: -1, Outputs: []int{0}}, 1, 0, api.ErrRange},
		{api.GaNet{Inputs: math.MaxInt, Gates: many(25, g(0, 0, 0))}, 1, 0, api.ErrRange},
		{api.GaNet{Inputs: math.MinInt, Outputs: []int{9}}, 1, 0, api.ErrRange},
		{api.GaNet{Inputs: 1}, 1, 0, api.ErrLong},
		{api.GaNet{Inputs: 1, Gates: many(1, g(9, 9, 9))}, 1, 0, api.ErrLong},
		{api.GaNet{Inputs: 1, Outputs: make([]int, 4)}, 0, 0, api.OK},
		{api.GaNet{Inputs: 1, Outputs: []int{9, 0, 0, 0, 0}}, 1, 0, api.ErrLong},
		{one(0, many(24, g(api.GaAnd, 0, 0))...), 0, 0, api.OK},
		{one(0, many(25, g(api.GaAnd, 0, 0))...), 1, 0, api.ErrLong},
		{one(99, many(25, g(0, 0, 0))...), 1, 0, api.ErrLong},
		// The gates.
		{one(9, g(1, 0, 0), g(0, -1, -1)), 2, 1, api.ErrArg},
		{one(9, g(1, 0, 0), g(6, 0, 0)), 2, 1, api.ErrArg},
		{one(9, g(1, 0, 0), g(-1, 0, 0)), 2, 1, api.ErrArg},
		{one(9, g(math.MinInt, 0, 0)), 2, 0, api.ErrArg},
		{one(9, g(math.MaxInt, 0, 0)), 2, 0, api.ErrArg},
		{one(9, g(1, 1, 0), g(0, 0, 0)), 2, 0, api.ErrNone}, // the first gate decides
		{one(9, g(1, 0, math.MinInt)), 2, 0, api.ErrNone},
		{one(9, g(5, math.MaxInt, 0)), 2, 0, api.ErrNone},
		// Too many delays, after the gates and before the outputs.
		{one(0, many(5, g(api.GaDelay, 0, 0))...), 0, 0, api.OK},
		{one(0, many(6, g(api.GaDelay, 0, 0))...), 1, 0, api.ErrLong},
		{one(9, many(6, g(api.GaDelay, 0, 0))...), 1, 0, api.ErrLong},
		{one(9, append(many(6, g(api.GaDelay, 0, 0)), g(1, 0, 7))...), 2, 6, api.ErrNone},
		// The outputs.
		{one(1), 3, 0, api.ErrNone},
		{one(-1), 3, 0, api.ErrNone},
		{one(math.MaxInt), 3, 0, api.ErrNone},
		{one(2, g(4, 0, 0)), 3, 0, api.ErrNone},
		{one(1, g(4, 0, 0)), 0, 0, api.OK},
		{api.GaNet{Inputs: 2, Outputs: []int{1, 0, 2, 3}}, 3, 2, api.ErrNone},
	} {
		if part, at, e := gate.Check(c.n); part != c.part || at != c.at || e != c.e {
			t.Errorf("%d: Check = %d, %d, %d", i, part, at, e)
		}
	}
}

// P2.1: which signals a gate of each kind can take; the gate has the signal 4, and there are 6.
func TestSignalsOfGates(t *testing.T) {
	for kind := api.GaAnd; kind <= api.GaDelay; kind++ {
		for a := -2; a < 9; a++ {
			for b := -2; b < 9; b++ {
				n := api.GaNet{Inputs: 3, Gates: []api.GaGate{g(4, 0, 0), g(kind, a, b), g(1, 0, 0)}, Outputs: []int{0}}
				want := 0 <= a && a < 4 && 0 <= b && b < 4
				switch kind {
				case api.GaNot:
					want = 0 <= a && a < 4 && b == 0
				case api.GaDelay:
					want = 0 <= a && a < 6 && b == 0
				}
				part, at, e := gate.Check(n)
				if want && (part != 0 || at != 0 || e != api.OK) || !want && (part != 2 || at != 1 || e != api.ErrNone) {
					t.Errorf("kind %d of %d and %d: Check = %d, %d, %d", kind, a, b, part, at, e)
				}
			}
		}
	}
}

// Functions with a net return its error first, and all else zero then.
func TestErrorOfNetFirst(t *testing.T) {
	faults, tests := make([]api.GaFault, 13), make([][]int, 11)
	for i, n := range []api.GaNet{{}, {Inputs: 1}, one(0, g(0, 0, 0)), one(0, g(1, 0, 1)), one(0, slices.Repeat([]api.GaGate{g(5, 0, 0)}, 6)...), one(1)} {
		_, _, want := gate.Check(n)
		next, output, e1 := gate.Step(n, -1, -1)
		run, e2 := gate.Run(n, make([]int, 33))
		with, e3 := gate.Stuck(n, stuck(-1, 2), make([]int, 33))
		left, e4 := gate.Differ(n, gate.Adder())
		right, e5 := gate.Differ(gate.Adder(), n)
		show, e6 := gate.Show(n, stuck(-1, 2))
		table, e7 := gate.Table(n, faults, tests)
		few, e8 := gate.Fewest(n, faults, tests)
		tell, e9 := gate.Tell(n, faults, tests)
		can, e10 := gate.Can(n, faults, tests, nil)
		text, e11 := gate.Write(n)
		for k, e := range []api.Errno{e1, e2, e3, e4, e5, e6, e7, e8, e9, e10, e11} {
			if e != want || e == api.OK {
				t.Errorf("%d: the function %d returns the error %d, not %d", i, k, e, want)
			}
		}
		if next != 0 || output != 0 || len(run)+len(with)+len(left)+len(right)+len(show)+len(table)+len(few)+len(tell)+len(can)+len(text) != 0 {
			t.Errorf("%d: there is a result with an error", i)
		}
	}
}

// P2.2: the examples, the kinds of gates, and delays of themselves and of later signals.
func TestRun(t *testing.T) {
	kinds := api.GaNet{Inputs: 2, Gates: []api.GaGate{g(1, 0, 1), g(2, 0, 1), g(3, 0, 1), g(4, 1, 0)}, Outputs: []int{2, 3, 4, 5}}
	for i, c := range []struct {
		n            api.GaNet
		inputs, want []int
	}{
		{gate.Adder(), []int{3, 1, 0}, []int{0, 0, 1}},
		{gate.Adder(), nil, nil},
		{kinds, []int{0, 1, 2, 3}, []int{8, 14, 6, 3}},
		{one(0), []int{1, 0, 1}, []int{1, 0, 1}},
		{one(1, g(5, 0, 0)), []int{1, 0, 1}, []int{0, 1, 0}},
		{one(1, g(5, 1, 0)), []int{1, 1, 1}, []int{0, 0, 0}},             // of itself
		{one(1, g(5, 2, 0), g(4, 1, 0)), []int{0, 0, 0}, []int{0, 1, 0}}, // of a later signal
		{api.GaNet{Inputs: 1, Gates: []api.GaGate{g(5, 2, 0), g(5, 0, 0)}, Outputs: []int{0, 1, 2, 0}}, []int{1, 0, 0}, []int{9, 4, 2}}, // of a later delay
		{api.GaNet{Inputs: 1, Gates: []api.GaGate{g(5, 0, 0), g(5, 1, 0)}, Outputs: []int{0, 1, 2, 0}}, []int{1, 0, 0}, []int{9, 2, 4}}, // of an earlier one
		{api.GaNet{Inputs: 6, Outputs: []int{5, 0, 5}}, []int{32, 1, 63, 30}, []int{5, 2, 7, 0}},
	} {
		if l, e := gate.Run(c.n, c.inputs); !slices.Equal(l, c.want) || e != api.OK {
			t.Errorf("%d: Run = %v, %d", i, l, e)
		}
	}
	for i, c := range []struct {
		inputs []int
		e      api.Errno
	}{
		{make([]int, 32), api.OK},
		{make([]int, 33), api.ErrLong},
		{slices.Repeat([]int{4}, 33), api.ErrLong},
		{[]int{0, 3, 4}, api.ErrRange},
		{[]int{-1}, api.ErrRange},
		{[]int{math.MinInt}, api.ErrRange},
		{[]int{math.MaxInt}, api.ErrRange},
	} {
		if l, e := gate.Run(gate.Adder(), c.inputs); e != c.e || e != api.OK && len(l) != 0 {
			t.Errorf("%d: Run = %v, %d", i, l, e)
		}
	}
}

// P2.2: a beat from any state, also one to which no inputs lead.
func TestStep(t *testing.T) {
	twice := api.GaNet{Inputs: 1, Gates: []api.GaGate{g(5, 0, 0), g(5, 0, 0)}, Outputs: []int{0, 1, 2}}
	row := api.GaNet{Inputs: 1, Gates: []api.GaGate{g(5, 2, 0), g(5, 0, 0)}, Outputs: []int{0, 1, 2}}
	full := one(1, slices.Repeat([]api.GaGate{g(5, 0, 0)}, 5)...)
	for i, c := range []struct {
		n                          api.GaNet
		state, input, next, output int
		e                          api.Errno
	}{
		{gate.Adder(), 1, 1, 1, 0, api.OK}, // the example
		{gate.Adder(), 0, 3, 1, 0, api.OK},
		{gate.Adder(), 1, 0, 0, 1, api.OK},
		{twice, 1, 0, 0, 2, api.OK},
		{twice, 2, 1, 3, 5, api.OK},
		{row, 1, 1, 2, 3, api.OK},
		{row, 2, 0, 1, 4, api.OK},
		{one(0), 0, 1, 0, 1, api.OK},
		{full, 31, 1, 31, 1, api.OK},
		{gate.Adder(), 2, 0, 0, 0, api.ErrRange},
		{gate.Adder(), -1, 0, 0, 0, api.ErrRange},
		{gate.Adder(), 0, 4, 0, 0, api.ErrRange},
		{gate.Adder(), 0, -1, 0, 0, api.ErrRange},
		{one(0), 1, 0, 0, 0, api.ErrRange},
		{full, 32, 0, 0, 0, api.ErrRange},
		{full, math.MaxInt, 0, 0, 0, api.ErrRange},
		{full, math.MinInt, 0, 0, 0, api.ErrRange},
		{full, 0, math.MaxInt, 0, 0, api.ErrRange},
		{full, 0, math.MinInt, 0, 0, api.ErrRange},
	} {
		if next, output, e := gate.Step(c.n, c.state, c.input); next != c.next || output != c.output || e != c.e {
			t.Errorf("%d: Step = %d, %d, %d", i, next, output, e)
		}
	}
}

// P2.3: the example, each kind of signal, and the errors in their order.
func TestStuck(t *testing.T) {
	a := gate.Adder()
	for i, c := range []struct {
		n            api.GaNet
		f            api.GaFault
		inputs, want []int
		e            api.Errno
	}{
		{a, stuck(7, 0), []int{3, 1, 0}, []int{0, 1, 0}, api.OK},
		{a, stuck(0, 1), []int{0, 0, 0}, []int{1, 1, 1}, api.OK},
		{a, stuck(2, 1), []int{0, 0}, []int{1, 1}, api.OK}, // a delay, also in the first beat
		{a, stuck(4, 0), []int{1, 2}, []int{0, 0}, api.OK}, // an output
		{a, stuck(7, 0), nil, nil, api.OK},
		{one(0), stuck(0, 1), []int{0, 1}, []int{1, 1}, api.OK}, // an input that is an output
		{one(1, g(5, 0, 0)), stuck(0, 1), []int{0, 0}, []int{0, 1}, api.OK},
		{a, stuck(8, 2), []int{4}, nil, api.ErrNone},
		{a, stuck(-1, 2), []int{4}, nil, api.ErrNone},
		{a, stuck(math.MaxInt, 0), nil, nil, api.ErrNone},
		{a, stuck(math.MinInt, 0), nil, nil, api.ErrNone},
		{a, stuck(7, 2), []int{4}, nil, api.ErrRange},
		{a, stuck(7, 2), make([]int, 33), nil, api.ErrRange},
		{a, stuck(7, -1), nil, nil, api.ErrRange},
		{a, stuck(7, math.MinInt), nil, nil, api.ErrRange},
		{a, stuck(7, math.MaxInt), nil, nil, api.ErrRange},
		{a, stuck(0, 1), slices.Repeat([]int{4}, 33), nil, api.ErrLong},
		{a, stuck(0, 1), []int{0, 4}, nil, api.ErrRange},
		{a, stuck(0, 1), []int{-1}, nil, api.ErrRange},
		{a, stuck(4, 1), make([]int, 32), slices.Repeat([]int{1}, 32), api.OK},
	} {
		if l, e := gate.Stuck(c.n, c.f, c.inputs); !slices.Equal(l, c.want) || e != c.e {
			t.Errorf("%d: Stuck = %v, %d", i, l, e)
		}
	}
}

// P2.2, P2.3: the outputs are those of the definition, for all sizes of nets.
func TestOutputsByDefinition(t *testing.T) {
	r := rand.New(rand.NewPCG(41, 42))
	for range 2000 {
		n := someNet(r, between(r, 1, 6), 24, 5)
		inputs := someInputs(r, n, r.IntN(33))
		if l, e := gate.Run(n, inputs); !slices.Equal(l, byDefinition(n, inputs)) || e != api.OK {
			t.Fatalf("Run of %v, %v = %v, %d", n, inputs, l, e)
		}
		f := someFault(r, n)
		if l, e := gate.Stuck(n, f, inputs); !slices.Equal(l, byDefinition(n, inputs, f)) || e != api.OK {
			t.Fatalf("Stuck of %v, %v, %v = %v, %d", n, f, inputs, l, e)
		}
	}
}

// P2.8: whatever two numbers are put in, their sum comes out, as many bits of it as there are beats.
func TestAdderAdds(t *testing.T) {
	a := gate.Adder()
	add := func(x, y uint64, beats int) uint64 {
		var sum uint64
		state := 0
		for i := range beats {
			next, output, e := gate.Step(a, state, int(x>>i&1|y>>i&1<<1))
			if e != api.OK {
				t.Fatalf("Step: %d", e)
			}
			sum |= uint64(output) << i
			state = next
		}
		return sum
	}
	for x := range uint64(40) {
		for y := range uint64(40) {
			if sum := add(x, y, 7); sum != x+y {
				t.Fatalf("%d and %d are %d", x, y, sum)
			}
		}
	}
	r := rand.New(rand.NewPCG(43, 44))
	for range 500 {
		x, y, beats := r.Uint64()>>1, r.Uint64()>>1, r.IntN(65)
		if sum := add(x, y, beats); beats < 64 && sum != (x+y)%(1<<beats) || beats == 64 && sum != x+y {
			t.Fatalf("%d and %d are %d in %d beats", x, y, sum, beats)
		}
		inputs := make([]int, min(beats, 32))
		for i := range inputs {
			inputs[i] = int(x>>i&1 | y>>i&1<<1)
		}
		outputs, e := gate.Run(a, inputs)
		for i, output := range outputs {
			if uint64(output) != (x+y)>>i&1 {
				t.Fatalf("%d and %d: Run = %v, %d", x, y, outputs, e)
			}
		}
	}
}

// P2.9: Step with the state that it returned gives the outputs of Run, wherever a run is cut, and later inputs change nothing before them.
func TestCutAnywhere(t *testing.T) {
	r := rand.New(rand.NewPCG(45, 46))
	for range 500 {
		n := someNet(r, between(r, 1, 6), 24, 5)
		inputs := someInputs(r, n, r.IntN(33))
		outputs, _ := gate.Run(n, inputs)
		state := 0
		for i, input := range inputs {
			next, output, e := gate.Step(n, state, input)
			if output != outputs[i] || next < 0 || next >= 1<<delaysOf(n) || e != api.OK {
				t.Fatalf("%v, %v: the beat %d is %d, %d, %d; not %d", n, inputs, i, next, output, e, outputs[i])
			}
			state = next
		}
		cut := r.IntN(len(inputs) + 1)
		other := slices.Concat(inputs[:cut], someInputs(r, n, r.IntN(33-cut)))
		if l, e := gate.Run(n, other); !slices.Equal(l[:cut], outputs[:cut]) || e != api.OK {
			t.Fatalf("%v: Run of %v and of %v is not the same up to %d", n, inputs, other, cut)
		}
	}
}
