package gate_test

import (
	"math/rand/v2"
	"slices"
	"testing"

	"quicksilver/api"
	"quicksilver/gate"
)

// lists yields all lists of so many numbers below a base, in the order in which they are compared number by number.
func lists(base, length int) func(yield func([]int) bool) {
	return func(yield func([]int) bool) {
		total := 1
		for range length {
			total *= base
		}
		for code := range total {
			list := make([]int, length)
			for i := length - 1; i >= 0; i-- {
				list[i] = code % base
				code /= base
			}
			if !yield(list) {
				return
			}
		}
	}
}

// shortestByDefinition tries all inputs of up to so many beats by which the outputs differ in the last beat.
func shortestByDefinition(inputs, beats int, a, b func(inputs []int) []int) []int {
	for length := 1; length <= beats; length++ {
		for list := range lists(1<<inputs, length) {
			if a(list)[length-1] != b(list)[length-1] {
				return list
			}
		}
	}
	return nil
}

// P2.4: Differ, with the example and the errors in their order.
func TestDiffer(t *testing.T) {
	slow := one(3, g(5, 0, 0), g(5, 1, 0), g(5, 2, 0))
	fast := one(1, g(5, 0, 0))
	or := gate.Adder()
	or.Gates[2].Kind = api.GaOr
	forgets := gate.Adder()
	forgets.Gates[5] = g(api.GaOr, 5, 5)
	two := api.GaNet{Inputs: 2, Outputs: []int{0, 1}}
	turned := api.GaNet{Inputs: 2, Outputs: []int{1, 0}}
	for i, c := range []struct {
		a, b api.GaNet
		want []int
		e    api.Errno
	}{
		{gate.Adder(), gate.Adder(), nil, api.ErrDown},
		{gate.Adder(), or, []int{3, 1}, api.OK},
		{gate.Adder(), forgets, []int{3, 1, 0}, api.OK},
		{slow, fast, []int{1, 0}, api.OK},
		{one(0), one(1, g(4, 0, 0)), []int{0}, api.OK},
		{one(0), fast, []int{1}, api.OK},
		{two, turned, []int{1}, api.OK},
		{one(0), one(2, g(4, 0, 0), g(4, 1, 0)), nil, api.ErrDown},
		{api.GaNet{}, api.GaNet{Inputs: 1}, nil, api.ErrRange}, // a first
		{api.GaNet{Inputs: 1}, api.GaNet{}, nil, api.ErrLong},
		{gate.Adder(), one(2, g(0, 0, 0)), nil, api.ErrArg},
		{gate.Adder(), one(0), nil, api.ErrArg},
		{gate.Adder(), two, nil, api.ErrArg},
		{two, gate.Adder(), nil, api.ErrArg},
		{api.GaNet{Inputs: 6, Outputs: []int{5}}, api.GaNet{Inputs: 6, Outputs: []int{4}}, []int{16}, api.OK},
	} {
		if l, e := gate.Differ(c.a, c.b); !slices.Equal(l, c.want) || e != c.e {
			t.Errorf("%d: Differ = %v, %d", i, l, e)
		}
	}
}

// P2.4: Show, with the examples and the errors in their order.
func TestShow(t *testing.T) {
	idle := one(3, g(4, 0, 0), g(2, 0, 1), g(1, 0, 2)) // the signal 2 is always 1
	slow := one(3, g(5, 0, 0), g(5, 1, 0), g(5, 2, 0))
	allOnes := api.GaNet{Inputs: 6, Gates: []api.GaGate{g(1, 0, 1), g(1, 2, 3), g(1, 4, 5), g(1, 6, 7), g(1, 8, 9)}, Outputs: []int{10}}
	for i, c := range []struct {
		n    api.GaNet
		f    api.GaFault
		want []int
		e    api.Errno
	}{
		{gate.Adder(), stuck(7, 0), []int{3, 0}, api.OK},
		{gate.Adder(), stuck(2, 1), []int{0}, api.OK},
		{gate.Adder(), stuck(6, 0), []int{3, 1, 0}, api.OK},
		{gate.Adder(), stuck(4, 0), []int{1}, api.OK},
		{idle, stuck(2, 1), nil, api.ErrDown},
		{idle, stuck(1, 0), nil, api.ErrDown},
		{idle, stuck(2, 0), []int{1}, api.OK},
		{allOnes, stuck(10, 0), []int{63}, api.OK}, // the last input
		{allOnes, stuck(5, 1), []int{31}, api.OK},
		{slow, stuck(0, 1), []int{0, 0, 0, 0}, api.OK},
		{slow, stuck(1, 1), []int{0, 0, 0}, api.OK},
		{slow, stuck(3, 0), []int{1, 0, 0, 0}, api.OK},
		{gate.Adder(), stuck(8, 2), nil, api.ErrNone},
		{gate.Adder(), stuck(-1, 0), nil, api.ErrNone},
		{gate.Adder(), stuck(0, 2), nil, api.ErrRange},
		{gate.Adder(), stuck(0, -1), nil, api.ErrRange},
	} {
		if l, e := gate.Show(c.n, c.f); !slices.Equal(l, c.want) || e != c.e {
			t.Errorf("%d: Show = %v, %d", i, l, e)
		}
	}
}

// counter returns a net that counts ones, and puts out 1 with the last one of a round. A round has 32 ones; if the net is hasty, each round but the first one has 31.
func counter(hasty bool) api.GaNet {
	n := api.GaNet{Inputs: 1}
	for i := range 5 {
		n.Gates = append(n.Gates, g(api.GaDelay, 6+2*i, 0))
	}
	carry := 0
	for i := range 5 {
		n.Gates = append(n.Gates, g(api.GaXor, 1+i, carry), g(api.GaAnd, 1+i, carry))
		carry = 7 + 2*i
	}
	n.Outputs = []int{carry}
	n.Gates = append(n.Gates, g(api.GaAnd, carry, carry), g(api.GaOr, 6, 16))
	if hasty {
		n.Gates[0].A = 17
	}
	return n
}

// P2.4, P2.11: the shortest inputs can be longer than a test.
func TestMoreBeatsThanInATest(t *testing.T) {
	want := slices.Repeat([]int{1}, 63)
	a, b, f := counter(false), counter(true), stuck(16, 0)
	if l, e := gate.Differ(a, b); !slices.Equal(l, want) || e != api.OK {
		t.Errorf("Differ = %v, %d", l, e)
	}
	if l, e := gate.Show(b, f); !slices.Equal(l, want) || e != api.OK {
		t.Errorf("Show = %v, %d", l, e)
	}
	x, y, z := byDefinition(a, want), byDefinition(b, want), byDefinition(b, want, f)
	if !slices.Equal(x[:62], y[:62]) || x[62] == y[62] || !slices.Equal(x, z) {
		t.Errorf("outputs %v; %v; %v", x, y, z)
	}
}

// someNear returns a net that is not far from another one: one of its gates, or outputs, is changed.
func someNear(r *rand.Rand, n api.GaNet) api.GaNet {
	n = clone(n)
	if len(n.Gates) == 0 || r.IntN(4) == 0 {
		n.Outputs[r.IntN(len(n.Outputs))] = r.IntN(n.Inputs + len(n.Gates))
		return n
	}
	i := r.IntN(len(n.Gates))
	switch x := &n.Gates[i]; x.Kind {
	case api.GaDelay:
		x.A = r.IntN(n.Inputs + len(n.Gates))
	case api.GaNot:
		x.A = r.IntN(n.Inputs + i)
	default:
		x.Kind, x.B = between(r, 1, 3), r.IntN(n.Inputs+i)
	}
	return n
}

// P2.4, P2.11, P2.13: the shortest inputs of small nets are those of all inputs that are tried one by one. Nets with 4 states each that differ at all do so within 7 beats.
func TestShortestByDefinition(t *testing.T) {
	r := rand.New(rand.NewPCG(51, 52))
	none, long := 0, 0
	for i := range 1200 {
		inputs := 1 + i%2
		a := someNet(r, inputs, 12, 2)
		b := someNear(r, a)
		runA := func(l []int) []int { return byDefinition(a, l) }
		runB := func(l []int) []int { return byDefinition(b, l) }
		f := someFault(r, a)
		runFault := func(l []int) []int { return byDefinition(a, l, f) }
		beats := 1<<delaysOf(a) + 1<<delaysOf(b) - 1
		if inputs == 2 {
			beats = min(beats, 5)
		}
		check := func(l []int, e api.Errno, other func(l []int) []int) {
			want := shortestByDefinition(inputs, beats, runA, other)
			if want == nil && inputs == 1 && (len(l) != 0 || e != api.ErrDown) || want == nil && e == api.OK && len(l) <= beats || want != nil && (!slices.Equal(l, want) || e != api.OK) {
				t.Fatalf("%v, %v, %v: %v, %d; not %v", a, b, f, l, e, want)
			}
			if want == nil {
				none++
			} else if len(want) > 2 {
				long++
			}
		}
		l, e := gate.Differ(a, b)
		check(l, e, runB)
		l, e = gate.Show(a, f)
		check(l, e, runFault)
	}
	if none < 100 || long < 20 {
		t.Errorf("%d are the same, %d differ late", none, long)
	}
}

// backward returns the shortest inputs by which two nets of any size differ, from what each pair of states needs at least, found from the end on with Step.
func backward(a, b api.GaNet) []int {
	type pair struct{ a, b int }
	all, never := 1<<a.Inputs, 1<<30
	after := func(p pair, input int) (pair, bool) {
		nextA, outputA, _ := gate.Step(a, p.a, input)
		nextB, outputB, _ := gate.Step(b, p.b, input)
		return pair{nextA, nextB}, outputA != outputB
	}
	beats := map[pair]int{}
	needs := func(p pair, input int) int {
		next, differ := after(p, input)
		if differ {
			return 1
		}
		if n, known := beats[next]; known {
			return n + 1
		}
		return never
	}
	for changed := true; changed; {
		changed = false
		for i := range 1 << (delaysOf(a) + delaysOf(b)) {
			p := pair{i >> delaysOf(b), i % (1 << delaysOf(b))}
			for input := range all {
				old, known := beats[p]
				if n := needs(p, input); n < never && (!known || n < old) {
					beats[p], changed = n, true
				}
			}
		}
	}
	var inputs []int
	now, some := beats[pair{}]
	for p := (pair{}); some && now > 0; now-- {
		for input := range all {
			if needs(p, input) == now {
				p, _ = after(p, input)
				inputs = append(inputs, input)
				break
			}
		}
	}
	return inputs
}

// P2.4, P2.13: what Differ says of greater nets is what is found from the end on.
func TestShortestOfGreaterNets(t *testing.T) {
	r := rand.New(rand.NewPCG(53, 54))
	for range 60 {
		a := someNet(r, between(r, 1, 3), 14, 3)
		b := someNear(r, a)
		l, e := gate.Differ(a, b)
		if want := backward(a, b); !slices.Equal(l, want) || (e == api.OK) != (len(want) > 0) || e != api.OK && e != api.ErrDown {
			t.Fatalf("Differ of %v and %v = %v, %d; not %v", a, b, l, e, want)
		}
	}
}

// P2.13: what Differ says is so, it is the same for both orders of the nets, and a further gate at the end changes nothing.
func TestSameNets(t *testing.T) {
	r := rand.New(rand.NewPCG(55, 56))
	equal := 0
	for range 800 {
		a := someNet(r, between(r, 1, 6), 20, 4)
		b := someNear(r, a)
		l, e := gate.Differ(a, b)
		if m, f := gate.Differ(b, a); !slices.Equal(l, m) || e != f {
			t.Fatalf("Differ of %v and %v = %v, %d; of both in the other order %v, %d", a, b, l, e, m, f)
		}
		more := clone(a)
		own := a.Inputs + len(a.Gates)
		more.Gates = append(more.Gates, g(api.GaXor, r.IntN(own), r.IntN(own)))
		if r.IntN(2) == 0 {
			more.Gates[len(a.Gates)] = g(api.GaDelay, r.IntN(own+1), 0)
		}
		if m, f := gate.Differ(a, more); len(m) != 0 || f != api.ErrDown {
			t.Fatalf("Differ of %v and %v = %v, %d", a, more, m, f)
		}
		if m, f := gate.Differ(more, b); !slices.Equal(l, m) || e != f {
			t.Fatalf("Differ of %v and %v = %v, %d", more, b, m, f)
		}
		if e == api.ErrDown {
			equal++
			inputs := someInputs(r, a, 60)
			if !slices.Equal(byDefinition(a, inputs), byDefinition(b, inputs)) {
				t.Fatalf("%v and %v differ", a, b)
			}
			continue
		}
		x, y, last := byDefinition(a, l), byDefinition(b, l), len(l)-1
		if !slices.Equal(x[:last], y[:last]) || x[last] == y[last] {
			t.Fatalf("Differ of %v and %v = %v, with the outputs %v and %v", a, b, l, x, y)
		}
	}
	if equal < 50 {
		t.Errorf("only %d are the same", equal)
	}
}

// P2.11: what Show returns gives other outputs in the last beat alone; if it returns none, no inputs that are tried show the fault.
func TestShown(t *testing.T) {
	r := rand.New(rand.NewPCG(57, 58))
	for range 400 {
		n := someNet(r, between(r, 1, 6), 24, 5)
		f := someFault(r, n)
		l, e := gate.Show(n, f)
		if e == api.ErrDown {
			inputs := someInputs(r, n, 100)
			if len(l) != 0 || !slices.Equal(byDefinition(n, inputs), byDefinition(n, inputs, f)) {
				t.Fatalf("Show of %v, %v = %v, %d", n, f, l, e)
			}
			continue
		}
		x, y, last := byDefinition(n, l), byDefinition(n, l, f), len(l)-1
		if e != api.OK || !slices.Equal(x[:last], y[:last]) || x[last] == y[last] {
			t.Fatalf("Show of %v, %v = %v, %d, with the outputs %v and %v", n, f, l, e, x, y)
		}
	}
}
