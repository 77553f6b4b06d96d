package library_test

import (
	"math"
	"math/rand/v2"
	"slices"
	"testing"

	"quicksilver/api"
	"quicksilver/library"
	"quicksilver/order"
)

// build is Build without an error.
func build(t *testing.T, cat []api.LiEntry, inputs int, calls ...api.LiCall) api.FoProgram {
	t.Helper()
	p, e := library.Build(cat, inputs, calls)
	if e != api.OK {
		t.Fatalf("Build of %d inputs and %v: %d", inputs, calls, e)
	}
	return p
}

// call is a call.
func call(name string, to int, args ...int) api.LiCall {
	return api.LiCall{Name: name, Args: args, To: to}
}

// spot is an address that is not known yet: a number in a part of the program.
type spot struct {
	part string
	n    int
}

// programBySpots is a second reading of a program: each word is written down with spots, which become addresses when all parts are there.
func programBySpots(cat []api.LiEntry, inputs int, calls []api.LiCall) (store []int, orders int) {
	type line struct {
		op             int
		from, to, next spot
	}
	var lines, links []line
	zero := spot{}
	put := func(op int, from, to spot) {
		lines = append(lines, line{op, from, to, spot{"orders", len(lines) + 1}})
	}
	parts := []string{"orders", "links", "registers"}
	registers := inputs
	for i := range inputs {
		put(api.OrRead, zero, spot{"registers", i})
	}
	for i, c := range calls {
		var code api.LiCode
		for _, entry := range cat {
			if entry.Name == c.Name {
				code = entry.Code
			}
		}
		for k, arg := range c.Args {
			put(api.OrMove, spot{"registers", arg}, spot{"routine " + c.Name, code.Args[k]})
		}
		put(api.OrMove, spot{"links", i}, spot{"routine " + c.Name, code.Exit})
		lines[len(lines)-1].next = spot{"routine " + c.Name, code.Entry}
		links = append(links, line{op: api.OrMove, next: spot{"orders", len(lines)}})
		put(api.OrMove, spot{"routine " + c.Name, code.Result}, spot{"registers", c.To})
		put(api.OrPrint, spot{"registers", c.To}, zero)
		registers = max(registers, c.To+1)
	}
	lines = append(lines, line{})
	sizes := map[string]int{"orders": len(lines), "links": len(links), "registers": registers}
	codes := map[string]api.LiCode{}
	for _, entry := range cat {
		if slices.ContainsFunc(calls, func(c api.LiCall) bool { return c.Name == entry.Name }) {
			name := "routine " + entry.Name
			parts, sizes[name], codes[name] = append(parts, name), len(entry.Code.Words), entry.Code
		}
	}
	begins, size := map[string]int{}, 0
	for _, part := range parts {
		begins[part] = size
		size += sizes[part]
	}
	address := func(s spot) int { return begins[s.part] + s.n }
	for _, l := range append(lines, links...) {
		store = append(store, word(op(l.op, address(l.from), address(l.to), address(l.next))))
	}
	store = append(store, make([]int, registers)...)
	for _, part := range parts[3:] {
		c := codes[part]
		for i, w := range c.Words {
			store = append(store, moved(w, c.Masks[i], begins[part]))
		}
	}
	return store, len(lines)
}

// P8.3: the chapter's example.
func TestBuild(t *testing.T) {
	p := build(t, example(t), 2, call("root", 2, 0))
	o, e := order.Decode(p.Store[3])
	if p.Orders != 7 || p.Start != 0 || o != op(api.OrMove, 7, 25, 11) || e != api.OK {
		t.Errorf("Build = %v; the order at 3 is %v", p, o)
	}
}

// P8.3: programs made at random, by the second reading.
func TestBuildAtRandom(t *testing.T) {
	r := rand.New(rand.NewPCG(8, 3))
	tooLong, fit := 0, 0
	for range 20000 {
		cat := someCatalogue(r, 1+r.IntN(6), 40)
		inputs := 1 + r.IntN(6)
		calls := someCalls(r, cat, inputs)
		p, e := library.Build(cat, inputs, calls)
		store, orders := programBySpots(cat, inputs, calls)
		if len(store) > 128 {
			tooLong++
			if e != api.ErrLong || !same(p, api.FoProgram{}) {
				t.Fatalf("Build of %v, %d, %v = %v, %d", cat, inputs, calls, p, e)
			}
			continue
		}
		fit++
		if e != api.OK || !same(p, api.FoProgram{Store: store, Orders: orders}) {
			t.Fatalf("Build of %v, %d, %v = %v, %d; not %v", cat, inputs, calls, p, e, store)
		}
	}
	if tooLong < 300 || fit < 300 {
		t.Errorf("%d programs are too long, and %d are not", tooLong, fit)
	}
}

// someCalls returns calls without an error.
func someCalls(r *rand.Rand, cat []api.LiEntry, inputs int) []api.LiCall {
	var known []int
	for i := range inputs {
		known = append(known, i)
	}
	var calls []api.LiCall
	for range r.IntN(6) {
		entry := cat[r.IntN(len(cat))]
		c := api.LiCall{Name: entry.Name, To: r.IntN(8)}
		for range entry.Code.Args {
			c.Args = append(c.Args, known[r.IntN(len(known))])
		}
		known = append(known, c.To)
		calls = append(calls, c)
	}
	return calls
}

// P8.3: what can be without inputs, without calls, and how many registers there are.
func TestBuildSizes(t *testing.T) {
	cat := []api.LiEntry{entry("a", long(1)), entry("b", long(40)), entry("c", long(40)), entry("d", long(33)), entry("e", long(34))}
	cat[1].Code.Args = []int{0, 39}
	for i, c := range []struct {
		inputs       int
		calls        []api.LiCall
		orders, size int
	}{
		{0, nil, 1, 1}, {1, nil, 2, 3}, {6, nil, 7, 13}, {6, []api.LiCall{}, 7, 13},
		{1, []api.LiCall{call("a", 0, 0)}, 6, 9}, {1, []api.LiCall{call("a", 7, 0)}, 6, 16}, {6, []api.LiCall{call("a", 5, 5)}, 11, 19},
		{1, slices.Repeat([]api.LiCall{call("a", 1, 0)}, 5), 22, 30},
		{2, []api.LiCall{call("b", 0, 0, 1), call("c", 0, 0)}, 12, 96},
		// Orders, links, registers and routines take just 128 words, and then one more.
		{2, []api.LiCall{call("b", 0, 0, 1), call("c", 0, 0), call("d", 0, 0)}, 16, 134},
		{1, []api.LiCall{call("c", 0, 0), call("d", 0, 0), call("e", 0, 0)}, 14, 125},
		{1, []api.LiCall{call("c", 0, 0), call("d", 0, 0), call("e", 3, 0)}, 14, 128},
		{1, []api.LiCall{call("c", 0, 0), call("d", 0, 0), call("e", 4, 0)}, 14, 129},
		{2, []api.LiCall{call("c", 0, 0), call("d", 0, 0), call("e", 2, 0)}, 15, 128},
	} {
		p, e := library.Build(cat, c.inputs, c.calls)
		if c.size > 128 {
			if e != api.ErrLong || !same(p, api.FoProgram{}) {
				t.Errorf("%d: Build = %v, %d", i, p, e)
			}
		} else if e != api.OK || p.Orders != c.orders || len(p.Store) != c.size || p.Start != 0 {
			t.Errorf("%d: Build = %v (%d words), %d", i, p, len(p.Store), e)
		}
	}
}

// P8.3: errors, and which one comes first.
func TestBuildErrors(t *testing.T) {
	cat := append(example(t), entry("b", long(40)), entry("c", long(40)), entry("d", long(40)))
	root, quot := call("root", 2, 0), call("quot", 3, 0, 1)
	tooLong := []api.LiCall{call("b", 0, 0), call("c", 0, 0), call("d", 0, 0)}
	for i, c := range []struct {
		inputs int
		calls  []api.LiCall
		e      api.Errno
	}{
		{2, []api.LiCall{root, quot}, api.OK},
		{-1, nil, api.ErrRange}, {7, nil, api.ErrRange}, {math.MinInt, nil, api.ErrRange}, {math.MaxInt, make([]api.LiCall, 6), api.ErrRange},
		{2, make([]api.LiCall, 6), api.ErrLong}, {2, slices.Repeat([]api.LiCall{root}, 6), api.ErrLong}, {2, slices.Repeat([]api.LiCall{root}, 5), api.OK},
		{2, make([]api.LiCall, 5), api.ErrNone}, {2, []api.LiCall{call("", 2, 0)}, api.ErrNone}, {2, []api.LiCall{call("roo", 2, 0)}, api.ErrNone}, {2, []api.LiCall{call("Root", -1)}, api.ErrNone},
		{2, []api.LiCall{call("root", 2)}, api.ErrLong}, {2, []api.LiCall{call("root", -1)}, api.ErrLong}, {2, []api.LiCall{call("root", 2, 0, 1)}, api.ErrLong}, {2, []api.LiCall{call("quot", 2, -1)}, api.ErrLong}, {2, []api.LiCall{call("quot", 2, 0, 1, 0)}, api.ErrLong},
		{2, []api.LiCall{call("root", -1, 0)}, api.ErrRange}, {2, []api.LiCall{call("root", 8, 0)}, api.ErrRange}, {2, []api.LiCall{call("root", 7, 0)}, api.OK}, {2, []api.LiCall{call("root", 0, 0)}, api.OK}, {2, []api.LiCall{call("root", math.MaxInt, 0)}, api.ErrRange}, {2, []api.LiCall{call("root", math.MinInt, 0)}, api.ErrRange},
		{2, []api.LiCall{call("root", 2, -1)}, api.ErrRange}, {2, []api.LiCall{call("root", 2, 1)}, api.OK}, {2, []api.LiCall{call("root", 2, 2)}, api.ErrRange}, {2, []api.LiCall{call("root", 2, 8)}, api.ErrRange}, {2, []api.LiCall{call("root", 2, math.MinInt)}, api.ErrRange},
		{0, []api.LiCall{call("root", 0, 0)}, api.ErrRange}, {6, []api.LiCall{call("root", 0, 5)}, api.OK}, {6, []api.LiCall{call("root", 0, 6)}, api.ErrRange},
		// A register becomes known by the calls before alone.
		{2, []api.LiCall{root, call("root", 3, 2)}, api.OK}, {2, []api.LiCall{call("root", 3, 2), root}, api.ErrRange}, {2, []api.LiCall{root, call("quot", 4, 2, 3)}, api.ErrRange}, {2, []api.LiCall{root, call("quot", 3, 2, 0), call("root", 5, 3)}, api.OK}, {2, []api.LiCall{root, call("root", 4, 4)}, api.ErrRange},
		// The first call with an error decides.
		{2, []api.LiCall{root, call("root", 2, 9), call("none", 0)}, api.ErrRange}, {2, []api.LiCall{root, call("none", 0), call("root", 2, 9)}, api.ErrNone}, {2, []api.LiCall{call("root", 2), call("none", 0)}, api.ErrLong},
		{1, tooLong, api.ErrLong}, {1, append(slices.Clone(tooLong), call("none", 0)), api.ErrNone}, {1, append(slices.Clone(tooLong), call("b", 8, 0)), api.ErrRange}, {1, tooLong[:2], api.OK},
	} {
		p, e := library.Build(cat, c.inputs, c.calls)
		if e != c.e || e != api.OK && !same(p, api.FoProgram{}) {
			t.Errorf("%d: Build = %v, %d", i, p, e)
		}
	}
}
