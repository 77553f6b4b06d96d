package formula

import (
	"slices"
	"strconv"
	"strings"

	"quicksilver/api"
)

// point is the beginning of each constant.
const point = "0."

// operand is the text of a value, and the kind of its node.
type operand struct {
	text string
	kind int
}

// bracketed returns the text, in brackets if the kind is one of some.
func (o operand) bracketed(kinds ...int) string {
	if slices.Contains(kinds, o.kind) {
		return "(" + o.text + ")"
	}
	return o.text
}

// writer writes a formula: it has the texts of operands, and the names of variables.
type writer struct {
	pile[operand]
	names []string
}

// textOf returns the text of a formula.
func textOf(f api.FoFormula) string {
	w := &writer{names: f.Vars}
	return last(f.Code, &w.pile, kinds[operand]{
		api.FoVar:   w.variable,
		api.FoConst: w.constant,
		api.FoAdd:   w.sum,
		api.FoSub:   w.difference,
		api.FoMul:   w.product,
	}).text
}

func (w *writer) variable(n api.FoNode) operand { return operand{w.names[n.Var], n.Kind} }

func (w *writer) constant(n api.FoNode) operand {
	digits := strconv.Itoa(n.Num)
	zeros := strings.Repeat("0", n.Places-len(digits))
	return operand{point + zeros + digits, n.Kind}
}

func (w *writer) sum(n api.FoNode) operand {
	first, second := w.two()
	return operand{first.text + "+" + second.bracketed(api.FoAdd, api.FoSub), n.Kind}
}

func (w *writer) difference(n api.FoNode) operand {
	first, second := w.two()
	return operand{first.text + "-" + second.bracketed(api.FoAdd, api.FoSub), n.Kind}
}

func (w *writer) product(n api.FoNode) operand {
	first, second := w.two()
	return operand{first.bracketed(api.FoAdd, api.FoSub) + "*" + second.bracketed(api.FoAdd, api.FoSub, api.FoMul), n.Kind}
}
