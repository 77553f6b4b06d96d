package formula

import (
	"quicksilver/api"
	"quicksilver/order"
)

// oneBits is which power of 2 FoOne is.
const oneBits = api.OrBits - 1

// evaluator evaluates a formula: it has the words of values, and those of variables.
type evaluator struct {
	pile[int]
	given []int
}

// wordOf returns the word that a formula comes to with words of its variables.
func wordOf(f api.FoFormula, given []int) int {
	v := &evaluator{given: given}
	return last(f.Code, &v.pile, kinds[int]{
		api.FoVar:   v.variable,
		api.FoConst: v.constant,
		api.FoAdd:   v.sum,
		api.FoSub:   v.difference,
		api.FoMul:   v.product,
	})
}

func (v *evaluator) variable(n api.FoNode) int { return v.given[n.Var] }

func (v *evaluator) constant(n api.FoNode) int { return wordOfConstant(n) }

func (v *evaluator) sum(api.FoNode) int {
	first, second := v.two()
	return toWord(first + second)
}

func (v *evaluator) difference(api.FoNode) int {
	first, second := v.two()
	return toWord(first - second)
}

func (v *evaluator) product(api.FoNode) int {
	first, second := v.two()
	return toWord(units(signed(first) * signed(second)))
}

// toWord returns a number modulo all words.
func toWord(n int) int { return n & (api.OrWord - 1) }

// units returns a product of two numbers of units, in units, rounded down.
func units(product int) int {
	// A shift rounds down also what is below 0.
	return product >> oneBits
}

// signed returns a word as a number with a sign.
func signed(word int) int {
	// There is no error: all values on the pile are words.
	n, _ := order.Signed(word)
	return n
}

// wordOfConstant returns the word of a constant.
func wordOfConstant(n api.FoNode) int {
	ten := tenTo(n.Places)
	return (2*n.Num*api.FoOne + ten) / (2 * ten)
}

// isExact says whether the word of a constant is its value.
func isExact(n api.FoNode) bool { return n.Num*api.FoOne%tenTo(n.Places) == 0 }

// tenTo returns a power of ten.
func tenTo(places int) int {
	power := 1
	for range places {
		power *= 10
	}
	return power
}
