package library_test

import (
	"math"
	"math/rand/v2"
	"slices"
	"testing"

	"quicksilver/api"
	"quicksilver/library"
)

// wild returns a number that may be anything, but is often one from 0 and below end.
func wild(r *rand.Rand, end int) int {
	strange := []int{math.MinInt, math.MaxInt, r.Int(), -1, end}
	if i := r.IntN(60); i < len(strange) {
		return strange[i]
	}
	return r.IntN(end)
}

// wildCatalogue returns what is a catalogue at times.
func wildCatalogue(r *rand.Rand) []api.LiEntry {
	cat := someCatalogue(r, 1+r.IntN(6), 12)
	x := &cat[r.IntN(len(cat))]
	c := &x.Code
	switch r.IntN(16) {
	case 0:
		x.Name = []string{"", "A", "a_", "\xff", cat[0].Name}[r.IntN(5)]
	case 1:
		x.Version = wild(r, 1001)
	case 2:
		c.Words[r.IntN(len(c.Words))] = wild(r, 1<<24)
	case 3:
		c.Masks[r.IntN(len(c.Masks))] = wild(r, 8)
	case 4:
		c.Entry, c.Exit, c.Result = wild(r, 12), wild(r, 12), wild(r, 12)
	case 5:
		c.Args = make([]int, r.IntN(4))
	case 6:
		c.Words = make([]int, r.IntN(50))
	case 7:
		c.Masks = c.Masks[:r.IntN(len(c.Masks)+1)]
	case 8:
		cat = append(cat, cat...)
	}
	return cat
}

// wildCalls returns calls that have no error at times.
func wildCalls(r *rand.Rand, cat []api.LiEntry) []api.LiCall {
	calls := someCalls(r, cat, 1+r.IntN(6))
	if len(calls) == 0 {
		return nil
	}
	c := &calls[r.IntN(len(calls))]
	switch r.IntN(8) {
	case 0:
		c.Name = []string{"", "A", "z9"}[r.IntN(3)]
	case 1:
		c.To = wild(r, 8)
	case 2:
		c.Args = append(c.Args, wild(r, 8))
	case 3:
		if len(c.Args) > 0 {
			c.Args[0] = wild(r, 8)
		}
	case 4:
		calls = append(calls, calls...)
	}
	return calls
}

// wildPatches returns patches that fit at times.
func wildPatches(r *rand.Rand, cat []api.LiEntry) []api.LiPatch {
	good := someCatalogue(r, 3, 5)
	for _, x := range cat {
		if len(x.Code.Words) > 0 && len(x.Code.Masks) >= len(x.Code.Words) {
			good = append(good, x)
		}
	}
	patches := somePatches(r, good[3*min(1, len(good)-3):], r.IntN(22))
	if len(patches) == 0 {
		return nil
	}
	p := &patches[r.IntN(len(patches))]
	switch r.IntN(12) {
	case 0:
		p.Version = wild(r, 1001)
	case 1:
		p.At = wild(r, 12)
	case 2:
		p.Old, p.OldMask = wild(r, 1<<24), wild(r, 8)
	case 3:
		p.New = wild(r, 1<<24)
	case 4:
		p.NewMask = wild(r, 8)
	case 5:
		p.Name = "none"
	}
	return patches
}

// wildTape returns what is the tape of a catalogue at times.
func wildTape(r *rand.Rand, cat []api.LiEntry) []int {
	tape, e := library.Punch(cat)
	if e != api.OK {
		for range r.IntN(900) {
			tape = append(tape, wild(r, 3))
		}
		return tape
	}
	switch r.IntN(3) {
	case 0:
		tape[r.IntN(len(tape))] = wild(r, 10)
	case 1:
		tape = tape[:r.IntN(len(tape)+1)]
	}
	return tape
}

// P8.13, P1: any catalogues are accepted, and not modified; with an error all other results are zero.
func TestAnyCatalogues(t *testing.T) {
	r := rand.New(rand.NewPCG(8, 16))
	met := map[api.Errno]int{}
	for range 20000 {
		cat, other := wildCatalogue(r), wildCatalogue(r)
		calls, patches, tape, inputs := wildCalls(r, cat), wildPatches(r, cat), wildTape(r, cat), wild(r, 7)
		if r.IntN(2) == 0 {
			other = cloned(cat)
			other[r.IntN(len(other))].Version = wild(r, 1001)
		}
		cat0, other0, patches0, tape0 := cloned(cat), cloned(other), slices.Clone(patches), slices.Clone(tape)
		calls0 := slices.Clone(calls)
		for i := range calls0 {
			calls0[i].Args = slices.Clone(calls0[i].Args)
		}
		p, e1 := library.Build(cat, inputs, calls)
		after, at, e2 := library.Patch(cat, patches)
		diff, e3 := library.Diff(cat, other)
		punched, e4 := library.Punch(cat)
		read, e5 := library.Read(tape)
		placed, e6 := library.Place(cat[0].Code, wild(r, 128))
		if !same(cat, cat0) || !same(other, other0) || !same(patches, patches0) || !same(tape, tape0) || !same(calls, calls0) {
			t.Fatalf("arguments are changed: %v, %v, %v, %v, %v", cat, other, patches, tape, calls)
		}
		zero := (e1 == api.OK || same(p, api.FoProgram{})) && (e2 == api.OK || len(after) == 0) && (e2 != api.OK || at == 0 && len(after) == len(cat))
		zero = zero && (e3 == api.OK || len(diff) == 0) && (e4 == api.OK) == (len(punched) > 0) && (e5 == api.OK || len(read) == 0) && (e6 == api.OK) == (len(placed) > 0)
		if !zero || at < 0 || at > 0 && at >= len(patches) || e4 != api.OK && (e1 != e4 || e2 != e4 || e3 != e4 || at != 0) {
			t.Fatalf("results of %v: %v, %d; %v, %d, %d; %v, %d; %v, %d; %v, %d; %v, %d", cat, p, e1, after, at, e2, diff, e3, punched, e4, read, e5, placed, e6)
		}
		for _, e := range []api.Errno{e1, e2, e3, e4, e5, e6} {
			met[e]++
		}
	}
	for _, e := range []api.Errno{api.OK, api.ErrArg, api.ErrLong, api.ErrNone, api.ErrTwice, api.ErrForm, api.ErrRange, api.LiErrOld, api.LiErrVersion, api.LiErrSum} {
		if met[e] < 100 {
			t.Errorf("the error %d is met only %d times", e, met[e])
		}
	}
}

// P8.13, P1: any kinds and arguments are accepted, and not modified.
func TestAnyArguments(t *testing.T) {
	r := rand.New(rand.NewPCG(8, 17))
	for range 20000 {
		kind := wild(r, 5)
		args := make([]int, r.IntN(4))
		for i := range args {
			args[i] = wild(r, one)
		}
		before := slices.Clone(args)
		n, e := library.Value(kind, args)
		is, f := library.Accept(kind, args, n)
		if !slices.Equal(args, before) || e != f || is != (e == api.OK) || e != api.OK && n != 0 {
			t.Fatalf("Value of %d with %v = %d, %d; Accept = %t, %d", kind, before, n, e, is, f)
		}
		if c, e := library.Code(kind); e != api.OK && !same(c, api.LiCode{}) {
			t.Fatalf("Code of %d = %v, %d", kind, c, e)
		}
	}
}

// spoil fills the memory of slices, up to their capacity.
func spoil(lists ...[]int) {
	for _, l := range lists {
		l = l[:cap(l)]
		for i := range l {
			l[i] = -99
		}
	}
}

// spoilCatalogue fills the memory of a catalogue.
func spoilCatalogue(cat []api.LiEntry) {
	for _, x := range cat {
		spoil(x.Code.Words, x.Code.Masks, x.Code.Args)
	}
	clear(cat[:cap(cat)])
}

// P8.13: results are new memory, each of its own, also if the entries of a catalogue share theirs.
func TestNewMemory(t *testing.T) {
	c := routine(t, api.LiRoot)
	spoil(c.Words, c.Masks, c.Args)
	if c := routine(t, api.LiRoot); !same(c, routineByTable(api.LiRoot)) {
		t.Errorf("Code shares memory: %v", c)
	}
	shared := slices.Repeat([]int{1}, 3)
	cat := append(make([]api.LiEntry, 0, 9), entry("a", api.LiCode{Words: shared, Masks: shared, Args: shared[:2]}), entry("b", api.LiCode{Words: shared, Masks: shared, Args: shared[1:]}))
	before := cloned(cat)
	p := api.LiPatch{Name: "a", Version: 1, At: 0, Old: 1, New: 5, OldMask: 1, NewMask: 6}
	for _, patches := range [][]api.LiPatch{nil, {p}} {
		after, again := patched(t, cat, patches), patched(t, cat, patches)
		want := cloned(before)
		if len(patches) > 0 {
			want[0].Version, want[0].Code.Words[0], want[0].Code.Masks[0] = 2, 5, 6
		}
		if !same(after, want) {
			t.Errorf("Patch = %v; not %v", after, want)
		}
		spoil(after[0].Code.Words, after[0].Code.Args)
		if !same(after[0].Code.Masks, want[0].Code.Masks) || !same(after[1], want[1]) {
			t.Errorf("one result shares memory: %v", after)
		}
		spoilCatalogue(after)
		if !same(again, want) || !same(cat, before) {
			t.Errorf("Patch shares memory: %v, %v", again, cat)
		}
	}
	tape := punch(t, cat)
	read, e := library.Read(tape)
	program := build(t, cat, 1, call("a", 0, 0, 0))
	words, f := library.Place(cat[0].Code, 0)
	spoil(tape, program.Store, words)
	if !same(read, before) || !same(cat, before) || e != api.OK || f != api.OK {
		t.Errorf("memory is shared: %v, %v", read, cat)
	}
	spoil(read[0].Code.Words, read[0].Code.Masks, read[0].Code.Args)
	if !same(read[1], before[1]) {
		t.Errorf("one result shares memory: %v", read)
	}
	if !slices.EqualFunc(cat[:9][2:], make([]api.LiEntry, 7), func(x, y api.LiEntry) bool { return same(x, y) }) {
		t.Errorf("something is written behind %v", cat)
	}
}
