package line_test

import (
	"math"
	"math/bits"
	"math/rand/v2"
	"slices"
	"testing"

	"quicksilver/api"
	"quicksilver/line"
)

// later returns words whose pulses come some beats later, each pulse moved by the definition.
func later(l api.LnLine, words []int, by int) []int {
	beats := l.Words * l.Bits
	after := make([]int, l.Words)
	for k := range beats {
		to := ((k+by)%beats + beats) % beats
		after[to/l.Bits] |= words[k/l.Bits] >> (k % l.Bits) & 1 << (to % l.Bits)
	}
	return after
}

// pulses returns how many pulses there are in words.
func pulses(words []int) int {
	n := 0
	for _, word := range words {
		n += bits.OnesCount(uint(word))
	}
	return n
}

// keptTemps returns the temperatures at which no pulses of a line are lost.
func keptTemps(l api.LnLine) []int {
	var temps []int
	for temp := -500; temp <= 1000; temp++ {
		if _, lost := shiftByDefinition(l, temp); !lost {
			temps = append(temps, temp)
		}
	}
	return temps
}

// P1.4: the examples, and the rounds in which pulses are lost.
func TestPass(t *testing.T) {
	words := []int{1, 128, 0, 255}
	none := []int{0, 0, 0, 0}
	for i, c := range []struct {
		temps, want []int
		at          int
	}{
		{[]int{8}, []int{3, 0, 1, 254}, -1},
		{[]int{8, -8}, words, -1},
		{[]int{2, 5, 8}, none, 1},
		{nil, words, -1},
		{[]int{-8}, []int{0, 64, 128, 255}, -1},
		{[]int{80}, []int{255, 1, 128, 0}, -1},
		{[]int{320}, words, -1},
		{[]int{5}, none, 0},
		{[]int{5, 6, 0}, none, 0},
		{[]int{8, -8, 0, 1000, -500, 4}, none, 5},
		{[]int{-500, 1000}, later(lineA(), words, 50), -1},
		{make([]int, 60), words, -1},
	} {
		if after, at, e := line.Pass(lineA(), words, c.temps); !slices.Equal(after, c.want) || at != c.at || e != api.OK {
			t.Errorf("%d: Pass = %v, %d, %d", i, after, at, e)
		}
	}
}

// P1.4: its errors, in their order.
func TestPassErrors(t *testing.T) {
	words := []int{1, 128, 0, 255}
	for i, c := range []struct {
		words, temps []int
		e            api.Errno
	}{
		{nil, nil, api.ErrLong},
		{words[:3], nil, api.ErrLong},
		{[]int{-1, 0, 0, 0, 0}, []int{-501}, api.ErrLong},
		{[]int{0, 0, 0, 256}, nil, api.ErrRange},
		{[]int{-1, 0, 0, 0}, make([]int, 61), api.ErrRange},
		{words, make([]int, 61), api.ErrLong},
		{words, slices.Repeat([]int{-501}, 61), api.ErrLong},
		{words, []int{1001}, api.ErrRange},
		{words, []int{5, 0, -501}, api.ErrRange},
	} {
		if after, at, e := line.Pass(lineA(), c.words, c.temps); len(after) != 0 || at != 0 || e != c.e {
			t.Errorf("%d: Pass = %v, %d, %d", i, after, at, e)
		}
	}
}

// P1.4 and P1.10: the words depend on the sum of the shifts alone, and no pulse is added or lost; once they are lost, all words stay 0.
func TestRounds(t *testing.T) {
	r := rand.New(rand.NewPCG(11, 12))
	for range 300 {
		l := someLine(r)
		kept := keptTemps(l)
		if len(kept) == 0 {
			continue
		}
		words := someWords(r, l)
		temps := make([]int, r.IntN(20))
		sum := 0
		for i := range temps {
			temps[i] = kept[r.IntN(len(kept))]
			shift, _ := shiftByDefinition(l, temps[i])
			sum += shift
		}
		want := later(l, words, sum)
		for range 2 {
			after, at, e := line.Pass(l, words, temps)
			if !slices.Equal(after, want) || at != -1 || e != api.OK || pulses(after) != pulses(words) {
				t.Fatalf("Pass of %v, %v, %v = %v, %d, %d; not %v", l, words, temps, after, at, e, want)
			}
			r.Shuffle(len(temps), func(i, k int) { temps[i], temps[k] = temps[k], temps[i] })
		}
		at := r.IntN(len(temps) + 1)
		if hot := between(r, -500, 1000); !slices.Contains(kept, hot) {
			after, lost, e := line.Pass(l, words, slices.Insert(temps, at, hot))
			if pulses(after) != 0 || len(after) != l.Words || lost != at || e != api.OK {
				t.Fatalf("Pass of %v, lost in %d = %v, %d, %d", l, at, after, lost, e)
			}
		}
	}
}

// P1.10: as many rounds at one temperature as there are beats leave the words as they were.
func TestRoundsOfAllBeats(t *testing.T) {
	r := rand.New(rand.NewPCG(13, 14))
	for range 300 {
		l := someLine(r)
		kept := keptTemps(l)
		if len(kept) == 0 {
			continue
		}
		words := someWords(r, l)
		temps := slices.Repeat(kept[r.IntN(len(kept)):][:1], l.Words*l.Bits)
		if after, at, e := line.Pass(l, words, temps); !slices.Equal(after, words) || at != -1 || e != api.OK {
			t.Fatalf("Pass of %v, %v, at %d = %v, %d, %d", l, words, temps[0], after, at, e)
		}
	}
}

// P1.5: the examples, and the errors in their order.
func TestCan(t *testing.T) {
	for i, c := range []struct {
		temps  []api.Span
		shifts []int
		lost   bool
		e      api.Errno
	}{
		{[]api.Span{span(0, 8)}, []int{0, 1}, true, api.OK},
		{[]api.Span{span(0, 3), span(7, 8)}, []int{1}, false, api.OK},
		{nil, []int{0}, false, api.OK},
		{[]api.Span{span(-7, -7)}, []int{31}, false, api.OK},
		{[]api.Span{span(-7, 7), span(-7, 7)}, []int{0, 1, 2, 30, 31}, true, api.OK},
		{[]api.Span{span(0, 3), span(5, 5)}, nil, true, api.OK},
		{[]api.Span{span(5, 5), span(0, 3)}, nil, true, api.OK},
		{[]api.Span{span(320, 320), span(-320, -320)}, []int{0}, false, api.OK},
		{make([]api.Span, 60), []int{0}, false, api.OK},
		{make([]api.Span, 61), nil, false, api.ErrLong},
		{slices.Repeat([]api.Span{span(3, 2)}, 61), nil, false, api.ErrLong},
		{[]api.Span{span(3, 2), span(0, 1001)}, nil, false, api.ErrArg},
		{[]api.Span{span(0, 1001), span(3, 2)}, nil, false, api.ErrRange},
		{[]api.Span{span(0, 8), span(1001, -501)}, nil, false, api.ErrRange},
		{[]api.Span{span(-501, 0)}, nil, false, api.ErrRange},
	} {
		if can, e := line.Can(lineA(), c.temps); !slices.Equal(can.Shifts, c.shifts) || can.Lost != c.lost || e != c.e {
			t.Errorf("%d: Can = %v, %d", i, can, e)
		}
	}
}

// someSpans returns spans of temperatures near to one another.
func someSpans(r *rand.Rand, count int) []api.Span {
	spans := make([]api.Span, count)
	for i := range spans {
		lo := between(r, -60, 60)
		spans[i] = span(lo, lo+r.IntN(15))
	}
	return spans
}

// canByDefinition goes through all temperatures within spans, one after the other.
func canByDefinition(l api.LnLine, spans []api.Span, late int, found map[int]bool) (lost bool) {
	beats := l.Words * l.Bits
	if len(spans) == 0 {
		found[(late%beats+beats)%beats] = true
		return false
	}
	for temp := spans[0].Lo; temp <= spans[0].Hi; temp++ {
		shift, gone := shiftByDefinition(l, temp)
		if gone {
			lost = true
		} else if canByDefinition(l, spans[1:], late+shift, found) {
			lost = true
		}
	}
	return lost
}

// P1.5: Can tells all that can be, and nothing else.
func TestCanByDefinition(t *testing.T) {
	r := rand.New(rand.NewPCG(15, 16))
	for range 500 {
		l, spans := someLine(r), someSpans(r, r.IntN(4))
		found := map[int]bool{}
		canByDefinition(l, spans, 0, found)
		// A loss within a later span counts also where an earlier span leaves nothing to lose.
		lost := false
		for _, s := range spans {
			lost = lost || canByDefinition(l, []api.Span{s}, 0, map[int]bool{})
		}
		var want []int
		for n := range found {
			want = append(want, n)
		}
		slices.Sort(want)
		if can, e := line.Can(l, spans); !slices.Equal(can.Shifts, want) || can.Lost != lost || e != api.OK {
			t.Fatalf("Can of %v, %v = %v, %d; not %v, %v", l, spans, can, e, want, lost)
		}
	}
}

// P1.11: with any temperatures within the spans the words are late by one of the numbers, unless pulses are lost; narrower spans have no other numbers.
func TestCanInEveryTruth(t *testing.T) {
	r := rand.New(rand.NewPCG(17, 18))
	for range 500 {
		l, spans := someLine(r), someSpans(r, r.IntN(12))
		can, _ := line.Can(l, spans)
		words := someWords(r, l)
		temps, narrower := make([]int, len(spans)), make([]api.Span, len(spans))
		for i, s := range spans {
			temps[i] = between(r, s.Lo, s.Hi)
			narrower[i] = span(between(r, s.Lo, temps[i]), between(r, temps[i], s.Hi))
		}
		after, at, _ := line.Pass(l, words, temps)
		isLate := func(n int) bool { return slices.Equal(after, later(l, words, n)) }
		if at >= 0 && !can.Lost || at < 0 && !slices.ContainsFunc(can.Shifts, isLate) {
			t.Fatalf("%v, %v: at %v %v becomes %v, %d", l, can, temps, words, after, at)
		}
		less, _ := line.Can(l, narrower)
		for _, n := range less.Shifts {
			if !slices.Contains(can.Shifts, n) {
				t.Fatalf("%v: %v has %v, but %v has %v", l, narrower, less, spans, can)
			}
		}
		if less.Lost && !can.Lost {
			t.Fatalf("%v: %v has %v, but %v has %v", l, narrower, less, spans, can)
		}
	}
}

// The longest call: many rounds, many shifts, and a line of many beats, half of which can be reached.
func TestCanOfMuch(t *testing.T) {
	l := api.LnLine{Words: 64, Bits: 40, Period: 2, Slope: 4}
	can, e := line.Can(l, slices.Repeat([]api.Span{span(-500, 1000)}, 60))
	if len(can.Shifts) != 1280 || can.Lost || e != api.OK {
		t.Errorf("Can = %d numbers, %v, %d", len(can.Shifts), can.Lost, e)
	}
}

// P1.6: the examples, the ends, and the errors.
func TestNext(t *testing.T) {
	for i, c := range []struct {
		word, beat, want int
		e                api.Errno
	}{
		{2, 15, 16, api.OK},
		{2, 16, 48, api.OK},
		{0, 0, 32, api.OK},
		{3, 0, 24, api.OK},
		{3, 24, 56, api.OK},
		{0, 1000000000, 1000000032, api.OK},
		{1, 1000000000, 1000000008, api.OK},
		{-1, 0, 0, api.ErrRange},
		{4, 0, 0, api.ErrRange},
		{0, -1, 0, api.ErrRange},
		{0, 1000000001, 0, api.ErrRange},
		{math.MaxInt, math.MaxInt, 0, api.ErrRange},
		{math.MinInt, math.MinInt, 0, api.ErrRange},
	} {
		if n, e := line.Next(lineA(), c.word, c.beat); n != c.want || e != c.e {
			t.Errorf("%d: Next = %d, %d", i, n, e)
		}
	}
}

// P1.6 and P1.12: what is returned is above the beat, by at most all beats, and of this word; in between the word does not begin.
func TestNextBeats(t *testing.T) {
	r := rand.New(rand.NewPCG(19, 20))
	for range 1000 {
		l := someLine(r)
		beats := l.Words * l.Bits
		word, beat := r.IntN(l.Words), r.IntN(5*beats)
		want := beat + 1
		for want%beats != word*l.Bits {
			want++
		}
		if n, e := line.Next(l, word, beat); n != want || n <= beat || n > beat+beats || e != api.OK {
			t.Fatalf("Next of %v, word %d, after %d = %d, %d; not %d", l, word, beat, n, e, want)
		}
	}
}
