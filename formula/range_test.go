package formula_test

import (
	"math"
	"math/big"
	"math/rand/v2"
	"testing"

	"quicksilver/api"
	"quicksilver/formula"
)

// span is that from one number to another one.
func span(lo, hi int) api.Span { return api.Span{Lo: lo, Hi: hi} }

// up returns a fraction, rounded up.
func up(x *big.Rat) int { return -floor(new(big.Rat).Neg(x)) }

// over divides by a power of 2.
func over(n, power int) *big.Rat {
	return new(big.Rat).SetFrac(big.NewInt(int64(n)), new(big.Int).Lsh(big.NewInt(1), uint(power)))
}

// bounds returns the range of a tree by a second reading, and whether no node can be too great; next is the index of the next node, and becomes that of the first one that can be too great.
func (x *tree) bounds(given map[string]api.Span, next *int) (r api.FoRange, fits bool) {
	switch x.kind {
	case api.FoVar:
		r.Words = given[x.text]
	case api.FoConst:
		value := x.exact(nil)
		n := floor(new(big.Rat).Add(value, big.NewRat(1, 2)))
		r.Words = span(n, n)
		if !value.IsInt() {
			r.Error = 1
		}
	default:
		a, aFits := x.first.bounds(given, next)
		if !aFits {
			return r, false
		}
		b, bFits := x.second.bounds(given, next)
		if !bFits {
			return r, false
		}
		r = together(x.kind, a, b)
	}
	if r.Words.Lo < -one || r.Words.Hi >= one {
		return r, false
	}
	*next++
	return r, true
}

// together returns the range of an operation.
func together(kind int, a, b api.FoRange) api.FoRange {
	first, second := []int{a.Words.Lo, a.Words.Hi}, []int{b.Words.Lo, b.Words.Hi}
	lo, hi := math.MaxInt, math.MinInt
	farA, farB := 0, 0
	for _, m := range first {
		for _, n := range second {
			results := map[int]int{api.FoAdd: m + n, api.FoSub: m - n, api.FoMul: floor(over(m*n, 23))}
			lo, hi = min(lo, results[kind]), max(hi, results[kind])
			farA, farB = max(farA, m, -m), max(farB, n, -n)
		}
	}
	halves := a.Error + b.Error
	if kind == api.FoMul {
		halves = 2 + up(over(2*farA*b.Error+2*farB*a.Error+a.Error*b.Error, 24))
	}
	return api.FoRange{Words: span(lo, hi), Error: halves}
}

// P7.5: the chapter's examples, and each operation.
func TestRange(t *testing.T) {
	add, sub, mul := formulaWith("a b", v(0), v(1), op(3)), formulaWith("a b", v(0), v(1), op(4)), formulaWith("a b", v(0), v(1), op(5))
	scaled, nineTenths := formulaWith("a", c(1, 1), v(0), op(5)), formulaWith("", c(9, 1), c(9, 1), op(5))
	for i, x := range []struct {
		f     api.FoFormula
		spans []api.Span
		want  api.FoRange
	}{
		{example(), []api.Span{span(0, half), span(half/2, half)}, api.FoRange{Words: span(2097152, 5242880), Error: 2}},
		{formulaWith("a", v(0)), []api.Span{span(-one, one-1)}, api.FoRange{Words: span(-one, one-1)}},
		{add, []api.Span{span(1, 2), span(-10, 20)}, api.FoRange{Words: span(-9, 22)}},
		{sub, []api.Span{span(1, 2), span(-10, 20)}, api.FoRange{Words: span(-19, 12)}},
		{add, []api.Span{span(-one, 0), span(0, one-1)}, api.FoRange{Words: span(-one, one-1)}},
		{mul, []api.Span{span(1, 2), span(-10, 20)}, api.FoRange{Words: span(-1, 0), Error: 2}},
		{mul, []api.Span{span(-half, half), span(-half, half/2)}, api.FoRange{Words: span(-half/2, half/2), Error: 2}},
		{mul, []api.Span{span(-one, -half), span(-one, -one+1)}, api.FoRange{}},
		{mul, []api.Span{span(-one, -half), span(-one+1, -half)}, api.FoRange{Words: span(half/2, one-1), Error: 2}},
		{mul, []api.Span{span(-one, one-1), span(0, one-1)}, api.FoRange{Words: span(-one+1, one-2), Error: 2}},
		// A factor of at most a half takes half of an error, rounded up; one of more than it all.
		{scaled, []api.Span{span(0, half)}, api.FoRange{Words: span(0, 419430), Error: 3}},
		{scaled, []api.Span{span(0, 0)}, api.FoRange{Error: 2}},
		{scaled, []api.Span{span(0, 1)}, api.FoRange{Error: 3}},
		{scaled, []api.Span{span(-one, 0)}, api.FoRange{Words: span(-838861, 0), Error: 3}},
		{nineTenths, nil, api.FoRange{Words: span(6794772, 6794772), Error: 4}},
	} {
		r, at, e := formula.Range(x.f, x.spans)
		if x.want == (api.FoRange{}) {
			if r != x.want || at != 2 || e != api.FoErrOver {
				t.Errorf("%d: Range = %v, %d, %d", i, r, at, e)
			}
			continue
		}
		if r != x.want || at != 0 || e != api.OK {
			t.Errorf("%d: Range = %v, %d, %d; not %v", i, r, at, e, x.want)
		}
	}
}

// P7.5: spans, how many of them, and nodes that can be too great.
func TestRangeErrors(t *testing.T) {
	add := formulaWith("a b", v(0), v(1), op(3))
	three := formulaWith("a b c", v(0), v(1), op(3), v(2), op(3))
	all := span(-one, one-1)
	for i, x := range []struct {
		f     api.FoFormula
		spans []api.Span
		at    int
		e     api.Errno
	}{
		{add, nil, 0, api.ErrArg}, {add, []api.Span{all}, 0, api.ErrArg}, {add, []api.Span{{Lo: 1}, {}, {}}, 0, api.ErrArg}, {formulaWith("", c(5, 1)), []api.Span{{}}, 0, api.ErrArg},
		{add, []api.Span{{}, span(0, one)}, 1, api.ErrRange}, {add, []api.Span{{}, span(-one-1, 0)}, 1, api.ErrRange}, {add, []api.Span{span(0, one), span(1, 0)}, 0, api.ErrRange}, {add, []api.Span{span(1, 0), span(0, one)}, 0, api.ErrArg}, {add, []api.Span{{}, span(1, 0)}, 1, api.ErrArg},
		// Of a span with both errors the one named first.
		{add, []api.Span{{}, span(one, 0)}, 1, api.ErrRange}, {add, []api.Span{{}, span(0, -one-1)}, 1, api.ErrRange}, {add, []api.Span{{}, span(math.MaxInt, math.MinInt)}, 1, api.ErrRange}, {add, []api.Span{{}, span(math.MinInt, math.MaxInt)}, 1, api.ErrRange}, {add, []api.Span{span(one-1, -one), {}}, 0, api.ErrArg},
		{example(), []api.Span{span(0, one-1), span(0, one-1)}, 6, api.FoErrOver}, {add, []api.Span{all, all}, 2, api.FoErrOver}, {add, []api.Span{span(0, one-1), span(0, 1)}, 2, api.FoErrOver}, {add, []api.Span{span(-one, 0), span(-1, 0)}, 2, api.FoErrOver}, {formulaWith("", c(5, 1), c(5, 1), op(3)), nil, 2, api.FoErrOver},
		{three, []api.Span{all, all, all}, 2, api.FoErrOver}, {three, []api.Span{all, {}, all}, 4, api.FoErrOver}, {three, []api.Span{all, {}, {}}, 0, api.OK},
		// What is too great stays so, though less is left at the end.
		{formulaWith("a", v(0), v(0), op(3), v(0), op(4)), []api.Span{span(0, half)}, 2, api.FoErrOver},
		{formulaWith("a", v(0), v(0), op(5)), []api.Span{span(-one, -one)}, 2, api.FoErrOver}, {formulaWith("a", v(0), v(0), op(5)), []api.Span{span(-one+1, -one+1)}, 0, api.OK},
	} {
		if r, at, e := formula.Range(x.f, x.spans); at != x.at || e != x.e || e != api.OK && r != (api.FoRange{}) {
			t.Errorf("%d: Range = %v, %d, %d; not %d, %d", i, r, at, e, x.at, x.e)
		}
	}
}

// someSpan returns a span of words, often a small one.
func someSpan(r *rand.Rand) api.Span {
	scale := one >> r.IntN(8)
	a, b := r.IntN(2*scale)-scale, r.IntN(2*scale)-scale
	switch r.IntN(12) {
	case 0:
		return span(a, a)
	case 1:
		return span(-scale, scale-1)
	case 2:
		return span(-one, -one)
	}
	return span(min(a, b), max(a, b))
}

// someSpans returns spans of all names, and those of the variables of a formula.
func someSpans(r *rand.Rand, vars []string) (given map[string]api.Span, spans []api.Span) {
	given = map[string]api.Span{}
	for _, name := range someNames() {
		given[name] = someSpan(r)
	}
	for _, name := range vars {
		spans = append(spans, given[name])
	}
	return given, spans
}

// inside returns a word of a span, often one of its ends.
func inside(r *rand.Rand, s api.Span) int {
	switch r.IntN(4) {
	case 0:
		return s.Lo
	case 1:
		return s.Hi
	}
	return s.Lo + r.IntN(s.Hi-s.Lo+1)
}

// P7.5: ranges against a second reading.
func TestRangesAtRandom(t *testing.T) {
	r := rand.New(rand.NewPCG(7, 8))
	met, greatest := map[api.Errno]int{}, 0
	for range 8000 {
		x := smallTree(r, 12)
		f := x.formula()
		given, spans := someSpans(r, f.Vars)
		node := 0
		want, fits := x.bounds(given, &node)
		e := api.OK
		if fits {
			node = 0
		} else {
			want, e = api.FoRange{}, api.FoErrOver
		}
		if got, at, f := formula.Range(f, spans); got != want || at != node || f != e {
			t.Fatalf("Range of %q with %v = %v, %d, %d; not %v, %d, %d", x.brackets(), given, got, at, f, want, node, e)
		}
		met[e]++
		greatest = max(greatest, want.Error)
	}
	if met[api.OK] < 2000 || met[api.FoErrOver] < 1000 || greatest < 8 {
		t.Errorf("errors: %v; the greatest error: %d", met, greatest)
	}
}

// P7.11: what words within their spans come to is within the range, and within its error.
func TestWithinBounds(t *testing.T) {
	r := rand.New(rand.NewPCG(7, 9))
	tried := 0
	for range 4000 {
		x := smallTree(r, 10)
		f := x.formula()
		given, spans := someSpans(r, f.Vars)
		bounds, _, e := formula.Range(f, spans)
		if e != api.OK {
			continue
		}
		for range 12 {
			tried++
			words := map[string]int{}
			for name, s := range given {
				words[name] = inside(r, s)
			}
			got := signed(t, eval(t, f, wordsOf(f.Vars, words)))
			differs := new(big.Rat).Sub(units(got), x.exact(words))
			if got < bounds.Words.Lo || got > bounds.Words.Hi || differs.Abs(differs).Cmp(big.NewRat(int64(bounds.Error), 2)) > 0 {
				t.Fatalf("Eval of %q with %v = %d, not within %v; %v from what is exact", x.brackets(), words, got, bounds, differs)
			}
		}
	}
	if tried < 10000 {
		t.Errorf("only %d words were tried", tried)
	}
}

// P7.12: narrower spans have no wider range, and no node that can be too great.
func TestNarrowerSpans(t *testing.T) {
	r := rand.New(rand.NewPCG(7, 10))
	tried := 0
	for range 6000 {
		f := smallTree(r, 10).formula()
		_, spans := someSpans(r, f.Vars)
		wide, _, e := formula.Range(f, spans)
		if e != api.OK {
			continue
		}
		tried++
		for i, s := range spans {
			a, b := inside(r, s), inside(r, s)
			spans[i] = span(min(a, b), max(a, b))
		}
		narrow, at, e := formula.Range(f, spans)
		if e != api.OK || narrow.Words.Lo < wide.Words.Lo || narrow.Words.Hi > wide.Words.Hi || narrow.Error > wide.Error {
			t.Fatalf("Range of %v with %v = %v, %d, %d; wider than %v", f, spans, narrow, at, e, wide)
		}
	}
	if tried < 1500 {
		t.Errorf("only %d formulas were tried", tried)
	}
}
