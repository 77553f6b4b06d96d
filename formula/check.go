package formula

import (
	"slices"

	"quicksilver/api"
	"quicksilver/line"
)

// errorOfNames returns the error of the names of variables.
func errorOfNames(names []string) api.Errno {
	for i, name := range names {
		if !line.Name(name) {
			return api.ErrForm
		}
		if slices.Contains(names[:i], name) {
			return api.ErrTwice
		}
	}
	return api.OK
}

// errorOfNodes returns the error of the nodes, and of the pile behind the last one.
func errorOfNodes(f api.FoFormula) api.Errno {
	high := 0
	for _, n := range f.Code {
		if e := errorOfFields(n, len(f.Vars)); e != api.OK {
			return e
		}
		if isOperation(n) {
			if high < 2 {
				return api.ErrForm
			}
			high--
			continue
		}
		high++
		if high > api.MaxFoDepth {
			return api.ErrLong
		}
	}
	if high != 1 {
		return api.ErrForm
	}
	return api.OK
}

// errorOfFields returns the error of a node of a formula with some variables, whatever is on the pile.
func errorOfFields(n api.FoNode, vars int) api.Errno {
	// All fields are 0, except those that the kind uses.
	stated := api.FoNode{Kind: n.Kind}
	isStated := true
	switch n.Kind {
	case api.FoVar:
		stated.Var = n.Var
		isStated = within(0, vars-1, n.Var)
	case api.FoConst:
		stated.Num, stated.Places = n.Num, n.Places
		isStated = isConstant(n.Num, n.Places)
	case api.FoAdd, api.FoSub, api.FoMul:
	default:
		return api.ErrArg
	}
	if n != stated || !isStated {
		return api.ErrRange
	}
	return api.OK
}

// isConstant says whether a constant can be written with so many places, and not with fewer.
func isConstant(num, places int) bool {
	return within(1, api.MaxFoPlaces, places) &&
		within(0, tenTo(places)-1, num) &&
		(places == 1 || num%10 != 0)
}

// isOperation says whether a node takes two values.
func isOperation(n api.FoNode) bool { return n.Kind != api.FoVar && n.Kind != api.FoConst }

// errorOfUses returns the error of variables that are not used, or not numbered in the order in which they are used first.
func errorOfUses(f api.FoFormula) api.Errno {
	used := 0
	for _, n := range f.Code {
		if n.Kind != api.FoVar {
			continue
		}
		if n.Var > used {
			return api.ErrArg
		}
		used = max(used, n.Var+1)
	}
	if used != len(f.Vars) {
		return api.ErrArg
	}
	return api.OK
}

// errorOfSpan returns the error of a span of a variable.
func errorOfSpan(s api.Span) api.Errno {
	if !fits(s) {
		return api.ErrRange
	}
	if s.Lo > s.Hi {
		return api.ErrArg
	}
	return api.OK
}

// within says whether a number is from a least one to a greatest one.
func within(least, greatest, n int) bool { return least <= n && n <= greatest }
