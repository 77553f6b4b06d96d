package formula

import (
	"iter"
	"slices"
	"strconv"
	"strings"

	"quicksilver/api"
	"quicksilver/line"
)

// token is a token of a text, or a byte that belongs to none, and its index.
type token struct {
	text string
	at   int
}

// end is the text of the token that stands behind all others.
const end = ""

// tokens yields the tokens of a text, and the end.
func tokens(text string) iter.Seq[token] {
	return func(yield func(token) bool) {
		for at := 0; at < len(text); {
			behind := at + 1
			for inRow(text[at]) && behind < len(text) && inRow(text[behind]) {
				behind++
			}
			if text[at] != ' ' && !yield(token{text[at:behind], at}) {
				return
			}
			at = behind
		}
		yield(token{end, len(text)})
	}
}

// inRow says whether a byte makes one token with others of its sort.
func inRow(b byte) bool {
	switch {
	case 'a' <= b && b <= 'z', 'A' <= b && b <= 'Z', '0' <= b && b <= '9', b == '_', b == '.':
		return true
	}
	return false
}

// formulaOf returns the formula of a text, however long it is; or the index of the first token that cannot be there, and ErrForm.
func formulaOf(text string) (f api.FoFormula, at int, e api.Errno) {
	r := reader{}
	for t := range tokens(text) {
		r.rest = append(r.rest, t)
	}
	defer func() {
		if recover() != nil {
			f, at, e = api.FoFormula{}, r.rest[0].at, api.ErrForm
		}
	}()
	r.sum()
	r.mustBe(r.now() == end)
	return r.FoFormula, 0, api.OK
}

// reader is what has been read of a formula, and the tokens that are still to be read. Its methods panic at a token that cannot be there, and leave it as the first one.
type reader struct {
	api.FoFormula
	rest []token
}

func (r *reader) now() string { return r.rest[0].text }

func (r *reader) next() { r.rest = r.rest[1:] }

// mustBe panics if the token that comes next cannot be there.
func (r *reader) mustBe(so bool) {
	if !so {
		panic(api.ErrForm)
	}
}

func (r *reader) sum() {
	r.joined(r.product, map[string]int{"+": api.FoAdd, "-": api.FoSub})
}

func (r *reader) product() {
	r.joined(r.operand, map[string]int{"*": api.FoMul})
}

// joined reads parts, and between them signs of operations.
func (r *reader) joined(part func(), signs map[string]int) {
	part()
	for {
		kind, isSign := signs[r.now()]
		if !isSign {
			return
		}
		r.next()
		part()
		r.node(api.FoNode{Kind: kind})
	}
}

func (r *reader) operand() {
	text := r.now()
	switch {
	case text == "(":
		r.next()
		r.sum()
		r.mustBe(r.now() == ")")
	case line.Name(text):
		r.node(api.FoNode{Kind: api.FoVar, Var: r.variable(text)})
	default:
		n, isOne := constant(text)
		r.mustBe(isOne)
		r.node(n)
	}
	r.next()
}

func (r *reader) node(n api.FoNode) { r.Code = append(r.Code, n) }

// variable returns the index of the variable with a name, which is a new one if there is none yet.
func (r *reader) variable(name string) int {
	index := slices.Index(r.Vars, name)
	if index == -1 {
		index = len(r.Vars)
		r.Vars = append(r.Vars, name)
	}
	return index
}

// constant returns the node of a constant, and whether a text is one.
func constant(text string) (n api.FoNode, isOne bool) {
	digits, begins := strings.CutPrefix(text, point)
	num, err := strconv.Atoi(digits)
	if !begins || err != nil || !isConstant(num, len(digits)) {
		return api.FoNode{}, false
	}
	return api.FoNode{Kind: api.FoConst, Num: num, Places: len(digits)}, true
}
