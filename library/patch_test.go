package library_test

import (
	"math"
	"math/rand/v2"
	"slices"
	"testing"

	"quicksilver/api"
	"quicksilver/library"
)

// clonedCode returns a routine that shares no memory.
func clonedCode(c api.LiCode) api.LiCode {
	c.Words, c.Masks, c.Args = slices.Clone(c.Words), slices.Clone(c.Masks), slices.Clone(c.Args)
	return c
}

// cloned returns a catalogue that shares no memory.
func cloned(cat []api.LiEntry) []api.LiEntry {
	cat = slices.Clone(cat)
	for i := range cat {
		cat[i].Code = clonedCode(cat[i].Code)
	}
	return cat
}

// someWord returns a word, often a small one.
func someWord(r *rand.Rand) int {
	if r.IntN(2) == 0 {
		return r.IntN(3)
	}
	return r.IntN(1 << 24)
}

// someRoutine returns a routine of at most so many words.
func someRoutine(r *rand.Rand, most int) api.LiCode {
	words := 1 + r.IntN(most)
	c := api.LiCode{Entry: r.IntN(words), Exit: r.IntN(words), Result: r.IntN(words)}
	for range words {
		c.Words, c.Masks = append(c.Words, someWord(r)), append(c.Masks, r.IntN(8))
	}
	for range 1 + r.IntN(2) {
		c.Args = append(c.Args, r.IntN(words))
	}
	return c
}

// someCatalogue returns a catalogue of so many entries, each of at most so many words.
func someCatalogue(r *rand.Rand, entries, most int) []api.LiEntry {
	names := []string{"a", "b9", "root", "quot", "x_y", "abcdefghijklmnopqrst", "cube", "z"}
	r.Shuffle(len(names), func(i, k int) { names[i], names[k] = names[k], names[i] })
	var cat []api.LiEntry
	for i := range entries {
		cat = append(cat, api.LiEntry{Name: names[i], Version: 1 + r.IntN(900), Code: someRoutine(r, most)})
	}
	return cat
}

// patched is Patch without an error.
func patched(t *testing.T, cat []api.LiEntry, patches []api.LiPatch) []api.LiEntry {
	t.Helper()
	after, at, e := library.Patch(cat, patches)
	if at != 0 || e != api.OK {
		t.Fatalf("Patch of %v with %v: %d, %d", cat, patches, at, e)
	}
	return after
}

// somePatches returns patches that fit, one after the other.
func somePatches(r *rand.Rand, cat []api.LiEntry, many int) []api.LiPatch {
	cat = cloned(cat)
	var patches []api.LiPatch
	for range many {
		x := &cat[r.IntN(len(cat))]
		at := r.IntN(len(x.Code.Words))
		p := api.LiPatch{Name: x.Name, Version: x.Version, At: at, Old: x.Code.Words[at], OldMask: x.Code.Masks[at], New: someWord(r), NewMask: r.IntN(8)}
		x.Version, x.Code.Words[at], x.Code.Masks[at] = p.Version+1, p.New, p.NewMask
		patches = append(patches, p)
	}
	return patches
}

// P8.4: a patch of the chapter's catalogue: a routine that begins at another place of its own.
func TestPatch(t *testing.T) {
	cat := example(t)
	old := cat[1].Code.Words[5]
	p := api.LiPatch{Name: "quot", Version: 3, At: 5, Old: old, New: old + 1, OldMask: 7, NewMask: 3}
	after := patched(t, cat, []api.LiPatch{p})
	want := example(t)
	want[1].Version, want[1].Code.Words[5], want[1].Code.Masks[5] = 4, old+1, 3
	if !same(after, want) || !same(cat, example(t)) {
		t.Errorf("Patch = %v", after)
	}
	if after := patched(t, nil, nil); len(after) != 0 {
		t.Errorf("Patch = %v", after)
	}
	if after := patched(t, cat, nil); !same(after, cat) {
		t.Errorf("Patch = %v", after)
	}
}

// P8.4: what does not fit, and which error comes first.
func TestPatchErrors(t *testing.T) {
	fits := api.LiPatch{Name: "s", Version: 3, At: 2, Old: 9, New: 10, OldMask: 7, NewMask: 6}
	for i, c := range []struct {
		change func(p *api.LiPatch)
		e      api.Errno
	}{
		{func(p *api.LiPatch) {}, api.OK},
		{func(p *api.LiPatch) { p.New, p.NewMask = 9, 7 }, api.OK},
		{func(p *api.LiPatch) { p.New, p.NewMask = 1<<24-1, 0 }, api.OK},
		{func(p *api.LiPatch) { p.Name = "" }, api.ErrNone},
		{func(p *api.LiPatch) { p.Name = "S" }, api.ErrNone},
		{func(p *api.LiPatch) { *p = api.LiPatch{Name: "t"} }, api.ErrNone},
		{func(p *api.LiPatch) { p.At = -1 }, api.ErrNone},
		{func(p *api.LiPatch) { p.At = 3 }, api.ErrNone},
		{func(p *api.LiPatch) { p.At, p.Version, p.Old, p.New = math.MinInt, 9, 9, -1 }, api.ErrNone},
		{func(p *api.LiPatch) { p.At = math.MaxInt }, api.ErrNone},
		{func(p *api.LiPatch) { p.Version = 2 }, api.LiErrVersion},
		{func(p *api.LiPatch) { p.Version = 4 }, api.LiErrVersion},
		{func(p *api.LiPatch) { p.Version, p.Old, p.New, p.NewMask = math.MaxInt, -1, -1, 8 }, api.LiErrVersion},
		{func(p *api.LiPatch) { p.Version = math.MinInt }, api.LiErrVersion},
		{func(p *api.LiPatch) { p.Old = 10 }, api.LiErrOld},
		{func(p *api.LiPatch) { p.Old = 9 + 1<<24 }, api.LiErrOld},
		{func(p *api.LiPatch) { p.OldMask = 6 }, api.LiErrOld},
		{func(p *api.LiPatch) { p.OldMask = 15 }, api.LiErrOld},
		{func(p *api.LiPatch) { p.Old, p.New, p.NewMask = math.MinInt, -1, 8 }, api.LiErrOld},
		{func(p *api.LiPatch) { p.OldMask, p.New = math.MaxInt, -1 }, api.LiErrOld},
		{func(p *api.LiPatch) { p.New = -1 }, api.ErrRange},
		{func(p *api.LiPatch) { p.New = 1 << 24 }, api.ErrRange},
		{func(p *api.LiPatch) { p.New = math.MaxInt }, api.ErrRange},
		{func(p *api.LiPatch) { p.NewMask = 8 }, api.ErrRange},
		{func(p *api.LiPatch) { p.NewMask = -1 }, api.ErrRange},
		{func(p *api.LiPatch) { p.NewMask = math.MinInt }, api.ErrRange},
	} {
		cat := []api.LiEntry{entry("a", small()), {Name: "s", Version: 3, Code: small()}}
		p := fits
		c.change(&p)
		other := api.LiPatch{Name: "a", Version: 1, At: 0, Old: 5, New: 5, OldMask: 4, NewMask: 4}
		for before := range 20 {
			patches := []api.LiPatch{}
			for version := 1; version <= before; version++ {
				other.Version = version
				patches = append(patches, other)
			}
			patches = append(patches, p)
			want := before
			if c.e == api.OK {
				want = 0
			}
			after, at, e := library.Patch(cat, patches)
			if at != want || e != c.e || (len(after) == 0) != (e != api.OK) {
				t.Errorf("%d: Patch = %v, %d, %d", i, after, at, e)
			}
		}
	}
}

// P8.4: how many patches there are, and the greatest version.
func TestPatchLimits(t *testing.T) {
	r := rand.New(rand.NewPCG(8, 40))
	cat := someCatalogue(r, 6, 40)
	patches := somePatches(r, cat, 21)
	if after := patched(t, cat, patches[:20]); same(after, cat) {
		t.Errorf("Patch = %v", after)
	}
	if after, at, e := library.Patch(cat, patches); len(after) != 0 || at != 0 || e != api.ErrLong {
		t.Errorf("Patch = %v, %d, %d", after, at, e)
	}
	if _, at, e := library.Patch(nil, make([]api.LiPatch, 20)); at != 0 || e != api.ErrNone {
		t.Errorf("Patch: %d, %d", at, e)
	}
	last := []api.LiEntry{{Name: "s", Version: 999, Code: small()}}
	p := api.LiPatch{Name: "s", Version: 999, Old: 5, New: 6, OldMask: 4, NewMask: 4}
	if after := patched(t, last, []api.LiPatch{p}); after[0].Version != 1000 {
		t.Errorf("Patch = %v", after)
	}
	q := api.LiPatch{Name: "s", Version: 1000, Old: 6, New: 7, OldMask: 4, NewMask: 4}
	if after, at, e := library.Patch(last, []api.LiPatch{p, q}); len(after) != 0 || at != 1 || e != api.ErrRange {
		t.Errorf("Patch = %v, %d, %d", after, at, e)
	}
	q.Old = 7
	if _, at, e := library.Patch(last, []api.LiPatch{p, q}); at != 1 || e != api.LiErrOld {
		t.Errorf("Patch: %d, %d", at, e)
	}
}

// P8.10: just the words that patches name are changed, and patches that undo each other bring all words back.
func TestPatchAndBack(t *testing.T) {
	r := rand.New(rand.NewPCG(8, 11))
	for range 3000 {
		cat := someCatalogue(r, 1+r.IntN(6), 40)
		patches := somePatches(r, cat, r.IntN(21))
		after := patched(t, cat, patches)
		type spot struct {
			name string
			at   int
		}
		last, counts := map[spot]api.LiPatch{}, map[string]int{}
		for _, p := range patches {
			last[spot{p.Name, p.At}] = p
			counts[p.Name]++
		}
		want := cloned(cat)
		for i := range want {
			x := &want[i]
			x.Version += counts[x.Name]
			for k := range x.Code.Words {
				if p, there := last[spot{x.Name, k}]; there {
					x.Code.Words[k], x.Code.Masks[k] = p.New, p.NewMask
				}
			}
		}
		if !same(after, want) {
			t.Fatalf("Patch of %v with %v = %v", cat, patches, after)
		}
		versions := map[string]int{}
		for _, x := range after {
			versions[x.Name] = x.Version
		}
		var undo []api.LiPatch
		for _, p := range slices.Backward(patches) {
			undo = append(undo, api.LiPatch{Name: p.Name, Version: versions[p.Name], At: p.At, Old: p.New, New: p.Old, OldMask: p.NewMask, NewMask: p.OldMask})
			versions[p.Name]++
		}
		back := patched(t, after, undo)
		for i := range back {
			if back[i].Version != cat[i].Version+2*counts[cat[i].Name] {
				t.Fatalf("the version of %v", back[i])
			}
			back[i].Version = cat[i].Version
		}
		if !same(back, cat) {
			t.Fatalf("Patch of %v = %v; not %v", after, back, cat)
		}
	}
}

// P8.5: the patches of differences, in order and with their versions; P8.11: they make the one catalogue of the other.
func TestDiff(t *testing.T) {
	r := rand.New(rand.NewPCG(8, 12))
	for range 3000 {
		old := someCatalogue(r, r.IntN(7), 40)
		after := cloned(old)
		many := r.IntN(21)
		for range many {
			if len(after) == 0 {
				break
			}
			c := &after[r.IntN(len(after))].Code
			at := r.IntN(len(c.Words))
			switch r.IntN(3) {
			case 0:
				c.Words[at] = someWord(r)
			case 1:
				c.Masks[at] = r.IntN(8)
			default:
				c.Words[at], c.Masks[at] = someWord(r), r.IntN(8)
			}
		}
		var want []api.LiPatch
		for i, x := range old {
			for k, w := range x.Code.Words {
				y := &after[i]
				if w != y.Code.Words[k] || x.Code.Masks[k] != y.Code.Masks[k] {
					want = append(want, api.LiPatch{Name: x.Name, Version: y.Version, At: k, Old: w, New: y.Code.Words[k], OldMask: x.Code.Masks[k], NewMask: y.Code.Masks[k]})
					y.Version++
				}
			}
		}
		patches, e := library.Diff(old, after)
		if e != api.OK || !same(patches, want) {
			t.Fatalf("Diff of %v and %v = %v, %d; not %v", old, after, patches, e, want)
		}
		if got := patched(t, old, patches); !same(got, after) {
			t.Fatalf("Patch of %v with %v = %v; not %v", old, patches, got, after)
		}
		if len(after) > 0 {
			i := r.IntN(len(after))
			after[i].Version += 1 - 2*r.IntN(2)
			if after[i].Version > 0 {
				if patches, e := library.Diff(old, after); len(patches) != 0 || e != api.LiErrVersion {
					t.Fatalf("Diff of %v and %v = %v, %d", old, after, patches, e)
				}
			}
		}
	}
}

// P8.5: errors, and which one comes first.
func TestDiffErrors(t *testing.T) {
	base := []api.LiEntry{{Name: "a", Version: 5, Code: small()}, {Name: "b", Version: 5, Code: long(40)}}
	differ := func(x *api.LiEntry, many int) {
		for i := range many {
			x.Code.Words[i]++
		}
		x.Version += many
	}
	for i, c := range []struct {
		change func(old, new []api.LiEntry) ([]api.LiEntry, []api.LiEntry)
		e      api.Errno
	}{
		{func(old, new []api.LiEntry) ([]api.LiEntry, []api.LiEntry) { return old, new }, api.OK},
		{func(old, new []api.LiEntry) ([]api.LiEntry, []api.LiEntry) { return nil, nil }, api.OK},
		{func(old, new []api.LiEntry) ([]api.LiEntry, []api.LiEntry) { return old, new[:1] }, api.ErrArg},
		{func(old, new []api.LiEntry) ([]api.LiEntry, []api.LiEntry) { return old[:1], new }, api.ErrArg},
		{func(old, new []api.LiEntry) ([]api.LiEntry, []api.LiEntry) { return nil, new }, api.ErrArg},
		{func(old, new []api.LiEntry) ([]api.LiEntry, []api.LiEntry) {
			slices.Reverse(new)
			return old, new
		}, api.ErrArg},
		{func(old, new []api.LiEntry) ([]api.LiEntry, []api.LiEntry) {
			new[1].Name = "c"
			return old, new
		}, api.ErrArg},
		{func(old, new []api.LiEntry) ([]api.LiEntry, []api.LiEntry) {
			new[1].Code = long(39)
			return old, new
		}, api.ErrArg},
		{func(old, new []api.LiEntry) ([]api.LiEntry, []api.LiEntry) {
			new[0].Code.Entry = 0
			return old, new
		}, api.ErrArg},
		{func(old, new []api.LiEntry) ([]api.LiEntry, []api.LiEntry) {
			new[0].Code.Exit = 1
			return old, new
		}, api.ErrArg},
		{func(old, new []api.LiEntry) ([]api.LiEntry, []api.LiEntry) {
			new[0].Code.Result = 1
			return old, new
		}, api.ErrArg},
		{func(old, new []api.LiEntry) ([]api.LiEntry, []api.LiEntry) {
			new[0].Code.Args = []int{2}
			return old, new
		}, api.ErrArg},
		{func(old, new []api.LiEntry) ([]api.LiEntry, []api.LiEntry) {
			new[0].Code.Args = []int{1, 1}
			return old, new
		}, api.ErrArg},
		{func(old, new []api.LiEntry) ([]api.LiEntry, []api.LiEntry) {
			differ(&new[1], 20)
			return old, new
		}, api.OK},
		{func(old, new []api.LiEntry) ([]api.LiEntry, []api.LiEntry) {
			differ(&new[1], 21)
			return old, new
		}, api.ErrLong},
		// The words of all entries count together.
		{func(old, new []api.LiEntry) ([]api.LiEntry, []api.LiEntry) {
			differ(&new[0], 2)
			differ(&new[1], 19)
			return old, new
		}, api.ErrLong},
		{func(old, new []api.LiEntry) ([]api.LiEntry, []api.LiEntry) {
			differ(&new[0], 1)
			differ(&new[1], 19)
			return old, new
		}, api.OK},
		// A word that differs with its mask counts once.
		{func(old, new []api.LiEntry) ([]api.LiEntry, []api.LiEntry) {
			differ(&new[1], 20)
			new[1].Code.Masks[0], new[1].Code.Masks[19] = 1, 1
			return old, new
		}, api.OK},
		{func(old, new []api.LiEntry) ([]api.LiEntry, []api.LiEntry) {
			differ(&new[1], 20)
			new[1].Code.Masks[20], new[1].Version = 1, 26
			return old, new
		}, api.ErrLong},
		{func(old, new []api.LiEntry) ([]api.LiEntry, []api.LiEntry) {
			new[1].Version = 6
			return old, new
		}, api.LiErrVersion},
		{func(old, new []api.LiEntry) ([]api.LiEntry, []api.LiEntry) {
			new[0].Version = 4
			return old, new
		}, api.LiErrVersion},
		{func(old, new []api.LiEntry) ([]api.LiEntry, []api.LiEntry) {
			differ(&new[1], 2)
			new[1].Version--
			return old, new
		}, api.LiErrVersion},
		// Versions of two entries that are right only together.
		{func(old, new []api.LiEntry) ([]api.LiEntry, []api.LiEntry) {
			differ(&new[1], 2)
			new[0].Version, new[1].Version = 6, 6
			return old, new
		}, api.LiErrVersion},
		{func(old, new []api.LiEntry) ([]api.LiEntry, []api.LiEntry) {
			differ(&new[1], 21)
			new[0].Version = 9
			return old, new
		}, api.ErrLong},
		{func(old, new []api.LiEntry) ([]api.LiEntry, []api.LiEntry) {
			differ(&new[1], 21)
			new[0].Code.Entry, new[0].Version = 0, 9
			return old, new
		}, api.ErrArg},
		{func(old, new []api.LiEntry) ([]api.LiEntry, []api.LiEntry) {
			new[0].Name, old[1].Version = "A", 0
			return old, new
		}, api.ErrRange},
		{func(old, new []api.LiEntry) ([]api.LiEntry, []api.LiEntry) {
			new[0].Name, old[1].Name = "b", "a"
			return old, new
		}, api.ErrTwice},
		{func(old, new []api.LiEntry) ([]api.LiEntry, []api.LiEntry) {
			new[0].Name = "A"
			return old[:1], new
		}, api.ErrForm},
	} {
		old, new := c.change(cloned(base), cloned(base))
		if patches, e := library.Diff(old, new); e != c.e || e != api.OK && len(patches) != 0 {
			t.Errorf("%d: Diff = %v, %d", i, patches, e)
		}
	}
	// The greatest version there is.
	old, new := cloned(base), cloned(base)
	old[1].Version = 998
	differ(&new[1], 2)
	new[1].Version = 1000
	if patches, e := library.Diff(old, new); len(patches) != 2 || patches[1].Version != 999 || e != api.OK {
		t.Errorf("Diff = %v, %d", patches, e)
	}
	old[1].Version = 999
	if patches, e := library.Diff(old, new); len(patches) != 0 || e != api.LiErrVersion {
		t.Errorf("Diff = %v, %d", patches, e)
	}
}
