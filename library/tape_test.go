package library_test

import (
	"math"
	"math/rand/v2"
	"slices"
	"testing"

	"quicksilver/api"
	"quicksilver/library"
)

// punch is Punch without an error.
func punch(t *testing.T, cat []api.LiEntry) []int {
	t.Helper()
	tape, e := library.Punch(cat)
	if e != api.OK {
		t.Fatalf("Punch of %v: %d", cat, e)
	}
	return tape
}

// summed returns a tape whose last word is right for the others.
func summed(tape []int) []int {
	total := 0
	for _, w := range tape[:len(tape)-1] {
		total = (total + w) % (1 << 24)
	}
	tape[len(tape)-1] = total
	return tape
}

// P8.6: a tape word by word.
func TestPunch(t *testing.T) {
	cat := []api.LiEntry{{Name: "a_9", Version: 1000, Code: small()}, {Name: "b", Version: 2, Code: api.LiCode{Words: []int{1<<24 - 1}, Masks: []int{7}, Args: []int{0, 0}}}}
	want := []int{2, 3, 97, 95, 57, 1000, 3, 1, 2, 0, 1, 1, 5, 4, 127, 0, 9, 7, 1, 98, 2, 1, 0, 0, 0, 2, 0, 0, 1<<24 - 1, 7, 0}
	summed(want)
	if tape := punch(t, cat); !slices.Equal(tape, want) || tape[30] != 1524 {
		t.Errorf("Punch = %v; not %v", tape, want)
	}
	for _, cat := range [][]api.LiEntry{nil, {}} {
		if tape := punch(t, cat); !slices.Equal(tape, []int{0, 0}) {
			t.Errorf("Punch = %v", tape)
		}
	}
}

// P8.12: tapes are read back; P8.6: no tape of a catalogue is too long.
func TestReadBack(t *testing.T) {
	r := rand.New(rand.NewPCG(8, 13))
	for range 3000 {
		cat := someCatalogue(r, r.IntN(7), 1+r.IntN(40))
		tape := punch(t, cat)
		if back, e := library.Read(tape); e != api.OK || !same(back, cat) {
			t.Fatalf("Read of %v = %v, %d; not %v", tape, back, e, cat)
		}
	}
	var largest []api.LiEntry
	for i := range 6 {
		c := api.LiCode{Words: slices.Repeat([]int{1<<24 - 1}, 40), Masks: slices.Repeat([]int{7}, 40), Entry: 39, Exit: 39, Result: 39, Args: []int{39, 39}}
		largest = append(largest, api.LiEntry{Name: "abcdefghijklmnopqrs" + string(rune('a'+i)), Version: 1000, Code: c})
	}
	tape := punch(t, largest)
	if back, e := library.Read(tape); e != api.OK || !same(back, largest) || len(tape) > 800 {
		t.Errorf("Read of %d words = %v, %d", len(tape), back, e)
	}
}

// P8.12: if one word of a tape is changed, there is an error; and what is read otherwise is punched as the same tape.
func TestOneWordChanged(t *testing.T) {
	r := rand.New(rand.NewPCG(8, 14))
	cats := [][]api.LiEntry{nil, example(t), {entry("a", small())}, someCatalogue(r, 6, 10), someCatalogue(r, 2, 40)}
	for _, cat := range cats {
		tape := punch(t, cat)
		for i, was := range tape {
			for _, is := range []int{0, 1, -1, -was, was + 1, was - 1, was + 128, was + 256, was - 256, was + 1<<24, was - 1<<24, was + 1<<32, was + math.MinInt, math.MaxInt, math.MinInt, r.IntN(1 << 24), r.IntN(7), r.IntN(130)} {
				if is == was {
					continue
				}
				tape[i] = is
				if cat, e := library.Read(tape); e != api.ErrForm && e != api.LiErrSum || len(cat) != 0 || i == len(tape)-1 && e != api.LiErrSum {
					t.Fatalf("Read of %v (changed at %d) = %v, %d", tape, i, cat, e)
				}
				// With the right sum it can be another tape.
				other := slices.Clone(tape)
				if i < len(tape)-1 && is >= 0 && is < 1<<24 {
					summed(other)
				}
				if cat, e := library.Read(other); e == api.OK && !slices.Equal(punch(t, cat), other) {
					t.Fatalf("Read of %v = %v, %d", other, cat, e)
				}
			}
			tape[i] = was
		}
	}
}

// P8.6: which words of a tape can be others, if its sum is right.
func TestReadWords(t *testing.T) {
	tape := punch(t, []api.LiEntry{entry("b", small()), entry("a", long(1))})
	// 2; 1, b, 1, 3, 1, 2, 0, 1, 1, 5, 4, 127, 0, 9, 7; 1, a, 1, 1, 0, 0, 0, 1, 0, 0, 0; the sum.
	can := map[int]api.Span{
		2: {Lo: 98, Hi: 122}, 3: {Lo: 1, Hi: 1000}, 5: {Lo: 0, Hi: 2}, 6: {Lo: 0, Hi: 2}, 7: {Lo: 0, Hi: 2}, 9: {Lo: 0, Hi: 2},
		10: {Lo: 0, Hi: 1<<24 - 1}, 11: {Lo: 0, Hi: 7}, 12: {Lo: 0, Hi: 1<<24 - 1}, 13: {Lo: 0, Hi: 7}, 14: {Lo: 0, Hi: 1<<24 - 1}, 15: {Lo: 0, Hi: 7},
		17: {Lo: 97, Hi: 122}, 18: {Lo: 1, Hi: 1000}, 25: {Lo: 0, Hi: 1<<24 - 1}, 26: {Lo: 0, Hi: 7},
	}
	for i := range len(tape) - 1 {
		span, there := can[i]
		if !there {
			span = api.Span{Lo: tape[i], Hi: tape[i]}
		}
		for _, is := range []int{span.Lo, span.Hi, span.Lo - 1, span.Hi + 1, span.Lo + 1<<24, span.Lo + 1<<32, math.MinInt, math.MaxInt} {
			other := slices.Clone(tape)
			other[i] = is
			want := api.ErrForm
			if is >= span.Lo && is <= span.Hi {
				want = api.OK
				summed(other)
			}
			if i == 17 && is == 98 {
				want = api.ErrForm
			}
			if cat, e := library.Read(other); e != want || e != api.OK && len(cat) != 0 {
				t.Errorf("Read with %d at %d = %v, %d; not %d", is, i, cat, e, want)
			}
		}
	}
	// Two entries with the same name are no catalogue.
	tape[17] = 98
	if cat, e := library.Read(summed(tape)); len(cat) != 0 || e != api.ErrForm {
		t.Errorf("Read = %v, %d", cat, e)
	}
}

// P8.6: tapes that are too short or too long, and sums.
func TestReadLengths(t *testing.T) {
	tape := punch(t, example(t))
	for many := range len(tape) {
		short := slices.Clone(tape[:many])
		if cat, e := library.Read(short); len(cat) != 0 || e != api.ErrForm {
			t.Errorf("Read of %d words = %v, %d", many, cat, e)
		}
		if many > 0 {
			if cat, e := library.Read(summed(short)); len(cat) != 0 || e != api.ErrForm {
				t.Errorf("Read of %d words = %v, %d", many, cat, e)
			}
		}
	}
	for more := 1; more <= 900-len(tape); more++ {
		long := append(slices.Clone(tape), make([]int, more)...)
		want := api.ErrForm
		if len(long) > 800 {
			want = api.ErrLong
		}
		if cat, e := library.Read(long); len(cat) != 0 || e != want {
			t.Errorf("Read of %d words = %v, %d", len(long), cat, e)
		}
		if cat, e := library.Read(summed(long)); len(cat) != 0 || e != want {
			t.Errorf("Read of %d words = %v, %d", len(long), cat, e)
		}
	}
	for i, c := range []struct {
		tape []int
		e    api.Errno
	}{
		{nil, api.ErrForm}, {[]int{}, api.ErrForm}, {[]int{0}, api.ErrForm}, {[]int{0, 0}, api.OK}, {[]int{0, 1}, api.LiErrSum}, {[]int{0, 1 << 24}, api.LiErrSum}, {[]int{0, -1}, api.LiErrSum}, {[]int{0, math.MinInt}, api.LiErrSum}, {[]int{0, 0, 0}, api.ErrForm},
		{[]int{-1, -1}, api.ErrForm}, {[]int{-1, 0}, api.ErrForm}, {[]int{7, 7}, api.ErrForm}, {[]int{math.MaxInt, 0}, api.ErrForm}, {[]int{1, 0}, api.ErrForm}, {[]int{1 << 24, 0}, api.ErrForm},
		{make([]int, 800), api.ErrForm}, {make([]int, 801), api.ErrLong}, {slices.Repeat([]int{-1}, 10000), api.ErrLong},
	} {
		if cat, e := library.Read(c.tape); len(cat) != 0 || e != c.e {
			t.Errorf("%d: Read = %v, %d", i, cat, e)
		}
	}
}

// P8.6: seven entries are no catalogue, six are.
func TestReadEntries(t *testing.T) {
	r := rand.New(rand.NewPCG(8, 15))
	tape := punch(t, someCatalogue(r, 6, 1))
	one := punch(t, []api.LiEntry{entry("other", long(1))})
	tape[0] = 7
	tape = append(tape[:len(tape)-1], one[1:]...)
	if cat, e := library.Read(summed(tape)); len(cat) != 0 || e != api.ErrForm {
		t.Errorf("Read = %v, %d", cat, e)
	}
}
