package library_test

import (
	"math"
	"slices"
	"strings"
	"testing"

	"quicksilver/api"
	"quicksilver/library"
)

// small is a routine of three words.
func small() api.LiCode {
	return api.LiCode{Words: []int{5, 127, 9}, Masks: []int{4, 0, 7}, Entry: 1, Exit: 2, Result: 0, Args: []int{1}}
}

// long is a routine of so many words, all 0, with one argument.
func long(words int) api.LiCode {
	return api.LiCode{Words: make([]int, words), Masks: make([]int, words), Args: []int{0}}
}

// entry is an entry with the version 1.
func entry(name string, c api.LiCode) api.LiEntry {
	return api.LiEntry{Name: name, Version: 1, Code: c}
}

// expectErrorOf checks that all functions with a catalogue return its error first, whatever the other arguments are.
func expectErrorOf(t *testing.T, cat []api.LiEntry, want api.Errno) {
	t.Helper()
	// The other arguments have errors of their own, which come later.
	p, e1 := library.Build(cat, -1, make([]api.LiCall, 9))
	after, at, e2 := library.Patch(cat, make([]api.LiPatch, 21))
	other := []api.LiEntry{entry("other", long(1)), {Name: "Other"}}
	if want == api.OK {
		if e1 != api.ErrRange || e2 != api.ErrLong {
			t.Errorf("%v: Build: %d; Patch: %d", cat, e1, e2)
		}
	} else if e1 != want || e2 != want {
		t.Errorf("%v: Build: %d; Patch: %d; not %d", cat, e1, e2, want)
	}
	old, e3 := library.Diff(cat, other)
	new, e4 := library.Diff(other[:1], cat)
	tape, e5 := library.Punch(cat)
	if e5 != want || want != api.OK && (e3 != want || e4 != want) || want == api.OK && e3 != api.ErrForm {
		t.Errorf("%v: Diff: %d, %d; Punch: %d; not %d", cat, e3, e4, e5, want)
	}
	if len(p.Store)+p.Start+p.Orders+len(after)+at+len(old)+len(new) != 0 || (len(tape) > 0) != (want == api.OK) {
		t.Errorf("%v: %v, %v, %d, %v, %v, %v", cat, p, after, at, old, new, tape)
	}
}

// P8.2 to P8.6: the error of a routine, alone and in a catalogue.
func TestErrorOfRoutine(t *testing.T) {
	for i, c := range []struct {
		change func(c *api.LiCode)
		e      api.Errno
	}{
		{func(c *api.LiCode) {}, api.OK},
		{func(c *api.LiCode) { *c = long(1) }, api.OK},
		{func(c *api.LiCode) { *c = long(40) }, api.OK},
		{func(c *api.LiCode) { *c = long(41) }, api.ErrLong},
		{func(c *api.LiCode) { *c = long(1000) }, api.ErrLong},
		{func(c *api.LiCode) { *c = api.LiCode{} }, api.ErrLong},
		{func(c *api.LiCode) { c.Words, c.Masks = nil, nil }, api.ErrLong},
		{func(c *api.LiCode) { c.Words = c.Words[:2] }, api.ErrLong},
		{func(c *api.LiCode) { c.Masks = c.Masks[:2] }, api.ErrLong},
		{func(c *api.LiCode) { c.Masks = append(c.Masks, 0) }, api.ErrLong},
		{func(c *api.LiCode) { c.Masks = nil }, api.ErrLong},
		{func(c *api.LiCode) { c.Args = nil }, api.ErrLong},
		{func(c *api.LiCode) { c.Args = []int{0, 1} }, api.OK},
		{func(c *api.LiCode) { c.Args = []int{2, 2} }, api.OK},
		{func(c *api.LiCode) { c.Args = []int{0, 1, 2} }, api.ErrLong},
		{func(c *api.LiCode) { c.Args, c.Words[0] = nil, -1 }, api.ErrLong},
		{func(c *api.LiCode) { c.Masks, c.Words[0], c.Entry = nil, -1, -1 }, api.ErrLong},
		{func(c *api.LiCode) { c.Words[2] = 1<<24 - 1 }, api.OK},
		{func(c *api.LiCode) { c.Words[2] = 1 << 24 }, api.ErrRange},
		{func(c *api.LiCode) { c.Words[0] = -1 }, api.ErrRange},
		{func(c *api.LiCode) { c.Words[1] = math.MinInt }, api.ErrRange},
		{func(c *api.LiCode) { c.Words[1] = math.MaxInt }, api.ErrRange},
		{func(c *api.LiCode) { c.Masks[2] = 8 }, api.ErrRange},
		{func(c *api.LiCode) { c.Masks[0] = -1 }, api.ErrRange},
		{func(c *api.LiCode) { c.Masks[1] = math.MaxInt }, api.ErrRange},
		{func(c *api.LiCode) { c.Masks[2], c.Entry = 8, 9 }, api.ErrRange},
		{func(c *api.LiCode) { c.Words[2], c.Args[0] = -1, 9 }, api.ErrRange},
		{func(c *api.LiCode) { c.Entry, c.Exit, c.Result, c.Args[0] = 2, 2, 2, 2 }, api.OK},
		{func(c *api.LiCode) { c.Entry = 3 }, api.ErrNone},
		{func(c *api.LiCode) { c.Entry = -1 }, api.ErrNone},
		{func(c *api.LiCode) { c.Exit = 3 }, api.ErrNone},
		{func(c *api.LiCode) { c.Exit = math.MinInt }, api.ErrNone},
		{func(c *api.LiCode) { c.Result = math.MaxInt }, api.ErrNone},
		{func(c *api.LiCode) { c.Result = -1 }, api.ErrNone},
		{func(c *api.LiCode) { c.Args = []int{3} }, api.ErrNone},
		{func(c *api.LiCode) { c.Args = []int{0, -1} }, api.ErrNone},
		{func(c *api.LiCode) { c.Args = []int{0, 3} }, api.ErrNone},
	} {
		x := small()
		c.change(&x)
		if words, e := library.Place(x, 0); e != c.e || e != api.OK && len(words) != 0 {
			t.Errorf("%d: Place = %v, %d", i, words, e)
		}
		if words, e := library.Place(x, -1); c.e != api.OK && e != c.e || c.e == api.OK && e != api.ErrRange || len(words) != 0 {
			t.Errorf("%d: Place = %v, %d", i, words, e)
		}
		expectErrorOf(t, []api.LiEntry{entry("a", x)}, c.e)
		expectErrorOf(t, []api.LiEntry{entry("b", small()), entry("a", x)}, c.e)
	}
}

// P8.3 to P8.6: the error of a catalogue: the first entry with an error, and of its errors the one named first.
func TestErrorOfCatalogue(t *testing.T) {
	var seven []api.LiEntry
	for _, name := range []string{"a", "b", "c", "d", "e", "f", "g"} {
		seven = append(seven, entry(name, small()))
	}
	expectErrorOf(t, nil, api.OK)
	expectErrorOf(t, []api.LiEntry{}, api.OK)
	expectErrorOf(t, seven[:6], api.OK)
	expectErrorOf(t, seven, api.ErrLong)
	expectErrorOf(t, make([]api.LiEntry, 7), api.ErrLong)
	expectErrorOf(t, make([]api.LiEntry, 6), api.ErrForm)
	for _, name := range []string{"", "A", "1", "_a", "a_", "a b", "aB", "a\x00", "é", strings.Repeat("a", 21)} {
		expectErrorOf(t, []api.LiEntry{{Name: name}}, api.ErrForm)
		expectErrorOf(t, []api.LiEntry{entry("a", small()), {Name: name, Version: 1, Code: small()}}, api.ErrForm)
	}
	expectErrorOf(t, []api.LiEntry{entry(strings.Repeat("a", 20), small()), entry("z_9", small())}, api.OK)
	for version, e := range map[int]api.Errno{0: api.ErrRange, -1: api.ErrRange, 1: api.OK, 1000: api.OK, 1001: api.ErrRange, math.MinInt: api.ErrRange, math.MaxInt: api.ErrRange} {
		expectErrorOf(t, []api.LiEntry{{Name: "a", Version: version, Code: small()}}, e)
		if e != api.OK {
			expectErrorOf(t, []api.LiEntry{{Name: "a", Version: version}}, api.ErrRange)
		}
	}
	expectErrorOf(t, []api.LiEntry{entry("a", small()), entry("b", small()), entry("a", small())}, api.ErrTwice)
	expectErrorOf(t, []api.LiEntry{entry("a", small()), {Name: "a"}}, api.ErrTwice)
	expectErrorOf(t, []api.LiEntry{entry("a", small()), {Name: "b"}, {Name: "a"}}, api.ErrRange)
	expectErrorOf(t, []api.LiEntry{entry("a", long(0)), {Name: "B"}}, api.ErrLong)
	expectErrorOf(t, []api.LiEntry{{Name: "B"}, entry("a", long(0))}, api.ErrForm)
	wrong := small()
	wrong.Exit = 3
	expectErrorOf(t, []api.LiEntry{entry("a", wrong), entry("a", small())}, api.ErrNone)
	// Two entries may have the same memory.
	expectErrorOf(t, []api.LiEntry{entry("a", seven[0].Code), entry("b", seven[0].Code)}, api.OK)
}

// moved is a second reading of how a word is placed: its addresses lie from the highest bits on as From, To and Next.
func moved(word, mask, base int) int {
	for i, bit := range []int{api.LiNext, api.LiTo, api.LiFrom} {
		if mask&bit == 0 {
			continue
		}
		address := word >> (7 * i) % 128
		word += ((address+base)%128 - address) << (7 * i)
	}
	return word
}

// P8.2: words at all bases, with all masks.
func TestPlace(t *testing.T) {
	codes := []api.LiCode{small(), long(40), routine(t, 1), routine(t, 2), routine(t, 3)}
	for mask := range 8 {
		codes = append(codes, api.LiCode{
			Words: []int{0, 1<<24 - 1, 127, 127 << 7, 127 << 14, 7 << 21, 1<<21 + 64<<14 + 65<<7 + 66},
			Masks: slices.Repeat([]int{mask}, 7),
			Args:  []int{0},
		})
	}
	for _, c := range codes {
		for base := range 128 {
			var want []int
			e := api.OK
			if base+len(c.Words) > 128 {
				e = api.ErrLong
			} else {
				for i, w := range c.Words {
					want = append(want, moved(w, c.Masks[i], base))
				}
			}
			if words, f := library.Place(c, base); !slices.Equal(words, want) || f != e {
				t.Fatalf("Place of %v at %d = %v, %d; not %v, %d", c, base, words, f, want, e)
			}
		}
		for _, base := range []int{-1, 128, 129, math.MinInt, math.MaxInt, math.MaxInt - 1} {
			if words, e := library.Place(c, base); len(words) != 0 || e != api.ErrRange {
				t.Errorf("Place of %v at %d = %v, %d", c, base, words, e)
			}
		}
	}
}
