package line_test

import (
	"math"
	"math/rand/v2"
	"slices"
	"strings"
	"testing"

	"quicksilver/api"
	"quicksilver/line"
)

// lineA is the line A of the chapter's examples.
func lineA() api.LnLine {
	return api.LnLine{Words: 4, Bits: 8, Period: 10, Delay: 320, Slope: 1, Window: 3}
}

func span(lo, hi int) api.Span { return api.Span{Lo: lo, Hi: hi} }

// between returns a number from lo to hi.
func between(r *rand.Rand, lo, hi int) int { return lo + r.IntN(hi-lo+1) }

// someLine returns a small line whose shifts are not far from 0.
func someLine(r *rand.Rand) api.LnLine {
	l := api.LnLine{Words: between(r, 1, 5), Bits: between(r, 1, 6), Period: between(r, 2, 40), Slope: between(r, -3, 3)}
	l.Window = between(r, 0, (l.Period-1)/2)
	l.Delay = max(0, l.Words*l.Bits*l.Period+between(r, -3*l.Period, 3*l.Period))
	return l
}

// someWords returns words for a line.
func someWords(r *rand.Rand, l api.LnLine) []int {
	words := make([]int, l.Words)
	for i := range words {
		words[i] = r.IntN(1 << l.Bits)
	}
	return words
}

// shiftByDefinition tries all beats that are near enough; the other result says that pulses are lost.
func shiftByDefinition(l api.LnLine, temp int) (int, bool) {
	late := l.Delay + l.Slope*temp - l.Words*l.Bits*l.Period
	for s := late/l.Period - 2; s <= late/l.Period+2; s++ {
		if d := late - s*l.Period; -l.Window <= d && d <= l.Window {
			return s, false
		}
	}
	return 0, true
}

// P1.1.
func TestName(t *testing.T) {
	for _, s := range []string{"a", "z", "az", "a0", "a9", "tank_7", "a_b", "a__0", strings.Repeat("x", 20)} {
		if !line.Name(s) {
			t.Errorf("%q is a name", s)
		}
	}
	for _, s := range []string{"", "_", "0", "7up", "_a", "a_", "A", "aB", "a-b", "a b", " a", "a ", "a\n", "a\x00", "é", "aé", "a\xff", "`", "{", "a`", "a{", "a/", "a:", "a^", strings.Repeat("x", 21), strings.Repeat("x", 1000)} {
		if line.Name(s) {
			t.Errorf("%q is no name", s)
		}
	}
	// Each byte, as the first one, in the middle, and as the last one.
	for b := range 256 {
		c := string([]byte{byte(b)})
		letter := strings.Contains("abcdefghijklmnopqrstuvwxyz", c)
		more := letter || strings.Contains("0123456789", c)
		if line.Name(c) != letter || line.Name("a"+c+"a") != (more || c == "_") || line.Name("a"+c) != more {
			t.Errorf("names with the byte %d", b)
		}
	}
}

// lineLimits returns how a number of a line is set, and its least and greatest value in the line A.
func lineLimits() []struct {
	set    func(l *api.LnLine, n int)
	lo, hi int
} {
	return []struct {
		set    func(l *api.LnLine, n int)
		lo, hi int
	}{
		{func(l *api.LnLine, n int) { l.Words = n }, 1, 64},
		{func(l *api.LnLine, n int) { l.Bits = n }, 1, 40},
		{func(l *api.LnLine, n int) { l.Period = n }, 7, 100000}, // above twice the window
		{func(l *api.LnLine, n int) { l.Delay = n }, 0, 1000000000},
		{func(l *api.LnLine, n int) { l.Slope = n }, -100000, 100000},
		{func(l *api.LnLine, n int) { l.Window = n }, 0, 4},
	}
}

// P1.2: the numbers of a line.
func TestCheck(t *testing.T) {
	for i, limit := range lineLimits() {
		for _, c := range []struct {
			n int
			e api.Errno
		}{{limit.lo, api.OK}, {limit.hi, api.OK}, {limit.lo - 1, api.ErrRange}, {limit.hi + 1, api.ErrRange}, {math.MinInt, api.ErrRange}, {math.MaxInt, api.ErrRange}} {
			l := lineA()
			limit.set(&l, c.n)
			if e := line.Check(l); e != c.e {
				t.Errorf("number %d as %d: Check = %d", i, c.n, e)
			}
		}
	}
	for _, c := range []struct {
		period, window int
		e              api.Errno
	}{{1, 0, api.ErrRange}, {0, 0, api.ErrRange}, {-10, 0, api.ErrRange}, {2, 0, api.OK}, {2, 1, api.ErrRange}, {3, 1, api.OK}, {9, 4, api.OK}, {9, 5, api.ErrRange}, {10, 5, api.ErrRange}, {100000, 49999, api.OK}, {100000, 50000, api.ErrRange}} {
		l := lineA()
		l.Period, l.Window = c.period, c.window
		if e := line.Check(l); e != c.e {
			t.Errorf("period %d, window %d: Check = %d", c.period, c.window, e)
		}
	}
}

// All functions with a line return its error first, and all else zero then.
func TestErrorOfLineFirst(t *testing.T) {
	for i := range lineLimits() {
		l := lineA()
		lineLimits()[i].set(&l, math.MinInt)
		shift, lost, e := line.Shift(l, 5000)
		if shift != 0 || lost || e != api.ErrRange {
			t.Errorf("%d: Shift = %d, %v, %d", i, shift, lost, e)
		}
		if s, e := line.Safe(l); s != span(0, 0) || e != api.ErrRange {
			t.Errorf("%d: Safe = %v, %d", i, s, e)
		}
		if after, at, e := line.Pass(l, nil, nil); len(after) != 0 || at != 0 || e != api.ErrRange {
			t.Errorf("%d: Pass = %v, %d, %d", i, after, at, e)
		}
		if can, e := line.Can(l, make([]api.Span, 61)); len(can.Shifts) != 0 || can.Lost || e != api.ErrRange {
			t.Errorf("%d: Can = %v, %d", i, can, e)
		}
		if n, e := line.Next(l, 0, 0); n != 0 || e != api.ErrRange {
			t.Errorf("%d: Next = %d, %d", i, n, e)
		}
		if n, e := line.Keeps(l, api.LnOven{Low: 1}, span(0, 0), false, 0); n != 0 || e != api.ErrRange {
			t.Errorf("%d: Keeps = %d, %d", i, n, e)
		}
		if file, e := line.Write(l, nil); len(file) != 0 || e != api.ErrRange {
			t.Errorf("%d: Write = %v, %d", i, file, e)
		}
	}
}

// P1.2: the examples, and the ends of windows.
func TestShift(t *testing.T) {
	for _, c := range []struct {
		temp, shift int
		lost        bool
	}{{3, 0, false}, {8, 1, false}, {-8, -1, false}, {5, 0, true}, {0, 0, false}, {-3, 0, false}, {4, 0, true}, {-4, 0, true}, {6, 0, true}, {7, 1, false}, {13, 1, false}, {14, 0, true}, {-7, -1, false}, {-13, -1, false}, {-14, 0, true}, {-500, -50, false}, {1000, 100, false}} {
		if shift, lost, e := line.Shift(lineA(), c.temp); shift != c.shift || lost != c.lost || e != api.OK {
			t.Errorf("Shift at %d = %d, %v, %d", c.temp, shift, lost, e)
		}
	}
	for _, temp := range []int{-501, 1001, math.MinInt, math.MaxInt} {
		if shift, lost, e := line.Shift(lineA(), temp); shift != 0 || lost || e != api.ErrRange {
			t.Errorf("Shift at %d = %d, %v, %d", temp, shift, lost, e)
		}
	}
}

// P1.2: the shift is the one of the definition.
func TestShiftByDefinition(t *testing.T) {
	r := rand.New(rand.NewPCG(1, 2))
	for range 300 {
		l := someLine(r)
		if r.IntN(4) == 0 {
			l = api.LnLine{Words: 64, Bits: 40, Period: between(r, 2, 100000), Delay: between(r, 0, 1000000000), Slope: between(r, -100000, 100000)}
			l.Window = between(r, 0, (l.Period-1)/2)
		}
		for temp := -500; temp <= 1000; temp += between(r, 1, 20) {
			want, gone := shiftByDefinition(l, temp)
			if shift, lost, e := line.Shift(l, temp); shift != want || lost != gone || e != api.OK {
				t.Fatalf("Shift of %v at %d = %d, %v, %d; not %d, %v", l, temp, shift, lost, e, want, gone)
			}
		}
	}
}

// P1.3.
func TestSafe(t *testing.T) {
	for i, c := range []struct {
		change func(l *api.LnLine)
		want   api.Span
		e      api.Errno
	}{
		{func(l *api.LnLine) {}, span(-3, 3), api.OK},
		{func(l *api.LnLine) { l.Slope = -1 }, span(-3, 3), api.OK},
		{func(l *api.LnLine) { l.Window = 0 }, span(0, 0), api.OK},
		{func(l *api.LnLine) { l.Slope = 0 }, span(-500, 1000), api.OK},
		{func(l *api.LnLine) { l.Slope, l.Delay = 0, 323 }, span(-500, 1000), api.OK},
		{func(l *api.LnLine) { l.Slope, l.Delay = 0, 324 }, span(0, 0), api.ErrDown},
		{func(l *api.LnLine) { l.Slope, l.Delay = 100, 350 }, span(0, 0), api.ErrDown},
		{func(l *api.LnLine) { l.Delay = 820 }, span(-500, -497), api.OK},
		{func(l *api.LnLine) { l.Slope, l.Words, l.Delay = -1, 1, 1080 }, span(997, 1000), api.OK},
		{func(l *api.LnLine) { l.Delay = 824 }, span(0, 0), api.ErrDown},
	} {
		l := lineA()
		c.change(&l)
		if s, e := line.Safe(l); s != c.want || e != c.e {
			t.Errorf("%d: Safe = %v, %d", i, s, e)
		}
	}
}

// P1.3 and P1.9: a round changes no words at any temperature of Safe, and some words at any other one, unless the shift is divisible by the beats.
func TestSafeIsWhereNothingChanges(t *testing.T) {
	r := rand.New(rand.NewPCG(3, 4))
	for range 40 {
		l := someLine(r)
		beats := l.Words * l.Bits
		s, e := line.Safe(l)
		for temp := -500; temp <= 1000; temp++ {
			shift, lost := shiftByDefinition(l, temp)
			safe := e == api.OK && s.Lo <= temp && temp <= s.Hi
			if safe != (shift == 0 && !lost) {
				t.Fatalf("%v: at %d; Safe = %v, %d", l, temp, s, e)
			}
			// One pulse alone shows every shift that is not divisible by the beats, and every loss.
			one := make([]int, l.Words)
			one[0] = 1
			after, _, _ := line.Pass(l, one, []int{temp})
			if changed := !slices.Equal(after, one); changed == (safe || !lost && shift%beats == 0) {
				t.Fatalf("%v: at %d: %v becomes %v", l, temp, one, after)
			}
			if words := someWords(r, l); safe {
				if after, _, _ := line.Pass(l, words, []int{temp}); !slices.Equal(after, words) {
					t.Fatalf("%v: at %d: %v becomes %v", l, temp, words, after)
				}
			}
		}
	}
}

// extremes are numbers at and beyond the ends of what an int can be.
func extremes() []int {
	return []int{math.MinInt, math.MinInt + 1, math.MinInt32, -1, 0, 1, 2, 40, 64, 100, math.MaxInt32, math.MaxInt - 1, math.MaxInt}
}

// P1 and P1.15: any arguments are accepted.
func TestAnyArguments(t *testing.T) {
	r := rand.New(rand.NewPCG(5, 6))
	number := func() int { return extremes()[r.IntN(len(extremes()))] }
	anySpan := func() api.Span { return span(number(), number()) }
	for i := range 20000 {
		l := api.LnLine{Words: number(), Bits: number(), Period: number(), Delay: number(), Slope: number(), Window: number()}
		if i%2 == 0 {
			l = lineA()
		}
		o := api.LnOven{Low: number(), High: number(), Warm: anySpan(), Cool: anySpan()}
		numbers, spans := make([]int, r.IntN(6)), make([]api.Span, r.IntN(3))
		for i := range numbers {
			numbers[i] = number()
		}
		for i := range spans {
			spans[i] = anySpan()
		}
		line.Check(l)
		line.Shift(l, number())
		line.Safe(l)
		line.Pass(l, numbers, numbers)
		line.Pass(lineA(), make([]int, 4), numbers)
		line.Can(l, spans)
		line.Next(l, number(), number())
		line.Oven(o, anySpan(), i%3 == 0, number())
		line.Keeps(l, o, anySpan(), i%3 == 0, number())
		line.Write(l, numbers)
	}
}

// P1.15: arguments are not modified, and results are new memory.
func TestMemory(t *testing.T) {
	words, temps, spans := []int{1, 128, 0, 255}, []int{0, 8}, []api.Span{span(0, 8)}
	file := []byte{77, 76, 4, 8, 1, 128, 0, 255, 219}
	for range 2 { // again, after the results of the first time have been written over
		same, _, _ := line.Pass(lineA(), words, nil)
		after, _, _ := line.Pass(lineA(), words, temps)
		can, _ := line.Can(lineA(), spans)
		written, _ := line.Write(lineA(), words)
		_, _, read, _ := line.Read(file)
		if !slices.Equal(same, words) || !slices.Equal(after, []int{3, 0, 1, 254}) || !slices.Equal(can.Shifts, []int{0, 1}) || !slices.Equal(written, file) || !slices.Equal(read, words) {
			t.Errorf("%v, %v, %v, %v, %v", same, after, can, written, read)
		}
		for _, result := range [][]int{same, after, can.Shifts, read} {
			for i := range result {
				result[i] = 77
			}
		}
		clear(written)
	}
	if !slices.Equal(words, []int{1, 128, 0, 255}) || !slices.Equal(temps, []int{0, 8}) || !slices.Equal(spans, []api.Span{span(0, 8)}) || !slices.Equal(file, []byte{77, 76, 4, 8, 1, 128, 0, 255, 219}) {
		t.Errorf("modified: %v, %v, %v, %v", words, temps, spans, file)
	}
}
