package formula

import (
	"math/bits"

	"quicksilver/api"
)

const (
	mantBits  = 23 // of each Mant but 0
	guardBits = 30 // that a sum and a quotient are computed to behind those of a Mant
	leastExp  = -api.FoExp - 1
)

// greatestNumber is the size of the greatest number that is made floating on its own.
const greatestNumber = 1 << 46

// floating returns n times 2 to the power of exp, made floating; n has at most 54 bits.
func floating(n, exp int) (api.FoFloat, api.Errno) {
	length := bits.Len(uint(max(n, -n)))
	exp += length
	switch {
	case n == 0 || exp < leastExp:
		return api.FoFloat{}, api.OK
	case exp > api.FoExp:
		return api.FoFloat{}, api.FoErrBig
	case length < mantBits:
		n <<= mantBits - length
	default:
		n = cut(n, length-mantBits)
	}
	return api.FoFloat{Mant: n, Exp: exp}, api.OK
}

// cut returns a number divided by 2 to the power of exp, and rounded towards 0; it has at most 54 bits.
func cut(n, exp int) int {
	// Nothing is left of so few bits in any case.
	exp = min(exp, 60)
	return n / (1 << exp)
}

// isFloating says whether a floating number is as stated.
func isFloating(f api.FoFloat) bool {
	isSize := within(api.FoOne/2, api.FoOne-1, f.Mant) || within(1-api.FoOne, -api.FoOne/2, f.Mant)
	return f == api.FoFloat{} || isSize && within(leastExp, api.FoExp, f.Exp)
}

// errorOfStep returns the error of a step with some registers, whatever is in them.
func errorOfStep(s api.FoStep, regs int) api.Errno {
	if !within(api.FoAdd, api.FoDiv, s.Op) {
		return api.ErrArg
	}
	for _, index := range [...]int{s.A, s.B, s.To} {
		if !within(0, regs-1, index) {
			return api.ErrNone
		}
	}
	return api.OK
}

// operate returns what a step puts into its register, or why it cannot be done.
func operate(op int, a, b api.FoFloat) (api.FoFloat, api.Errno) {
	switch op {
	case api.FoAdd:
		return sum(a, b)
	case api.FoSub:
		b.Mant = -b.Mant
		return sum(a, b)
	case api.FoMul:
		return floating(a.Mant*b.Mant, a.Exp+b.Exp-2*mantBits)
	}
	if b.Mant == 0 {
		return api.FoFloat{}, api.ErrZero
	}
	return floating((a.Mant<<guardBits)/b.Mant, a.Exp-b.Exp-guardBits)
}

// sum returns the sum of two floating numbers.
func sum(a, b api.FoFloat) (api.FoFloat, api.Errno) {
	switch {
	case a.Mant == 0:
		return b, api.OK
	case b.Mant == 0:
		return a, api.OK
	case a.Exp < b.Exp:
		a, b = b, a
	}
	smaller := cut(b.Mant<<guardBits, a.Exp-b.Exp)
	return floating(a.Mant<<guardBits+smaller, a.Exp-mantBits-guardBits)
}
