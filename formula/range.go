package formula

import (
	"slices"

	"quicksilver/api"
)

// bounder finds the range of a formula: it has the ranges of nodes, and the spans of variables.
type bounder struct {
	pile[api.FoRange]
	given []api.Span
}

// rangeOf returns the range of a formula with spans of its variables; or the first node that can be too great.
func rangeOf(f api.FoFormula, given []api.Span) (r api.FoRange, at int, e api.Errno) {
	b := &bounder{given: given}
	by := kinds[api.FoRange]{
		api.FoVar:   b.variable,
		api.FoConst: b.constant,
		api.FoAdd:   b.sum,
		api.FoSub:   b.difference,
		api.FoMul:   b.product,
	}
	for i, value := range values(f.Code, &b.pile, by) {
		if !fits(value.Words) {
			return api.FoRange{}, i, api.FoErrOver
		}
		r = value
	}
	return r, 0, api.OK
}

// fits says whether the ends of a span are words, Signed.
func fits(s api.Span) bool {
	return within(-api.FoOne, api.FoOne-1, s.Lo) && within(-api.FoOne, api.FoOne-1, s.Hi)
}

func (b *bounder) variable(n api.FoNode) api.FoRange {
	return api.FoRange{Words: b.given[n.Var]}
}

func (b *bounder) constant(n api.FoNode) api.FoRange {
	halves := 1
	if isExact(n) {
		halves = 0
	}
	return api.FoRange{Words: spanOf(wordOfConstant(n)), Error: halves}
}

func (b *bounder) sum(api.FoNode) api.FoRange {
	first, second := b.two()
	x, y := first.Words, second.Words
	return api.FoRange{
		Words: spanOf(x.Lo+y.Lo, x.Hi+y.Hi),
		Error: first.Error + second.Error,
	}
}

func (b *bounder) difference(api.FoNode) api.FoRange {
	first, second := b.two()
	x, y := first.Words, second.Words
	return api.FoRange{
		Words: spanOf(x.Lo-y.Hi, x.Hi-y.Lo),
		Error: first.Error + second.Error,
	}
}

func (b *bounder) product(api.FoNode) api.FoRange {
	first, second := b.two()
	x, y := first.Words, second.Words
	doubtful := 2*farthest(x)*second.Error + 2*farthest(y)*first.Error + first.Error*second.Error
	return api.FoRange{
		Words: spanOf(units(x.Lo*y.Lo), units(x.Lo*y.Hi), units(x.Hi*y.Lo), units(x.Hi*y.Hi)),
		// 2 halves are for what the machine rounds down.
		Error: 2 + upToHalves(doubtful),
	}
}

// spanOf returns the span from the least to the greatest of some numbers.
func spanOf(numbers ...int) api.Span {
	return api.Span{Lo: slices.Min(numbers), Hi: slices.Max(numbers)}
}

// farthest returns the greater distance of the ends of a span from 0.
func farthest(s api.Span) int { return max(-s.Lo, s.Hi) }

// upToHalves returns a number divided by 2 FoOne and rounded up.
func upToHalves(n int) int { return (n + 2*api.FoOne - 1) / (2 * api.FoOne) }
