package formula_test

import (
	"math/rand/v2"
	"regexp"
	"slices"
	"strings"
	"testing"

	"quicksilver/api"
	"quicksilver/formula"
)

var (
	aToken    = regexp.MustCompile(`^(?:[A-Za-z0-9_.]+|.|\n)`)
	aName     = regexp.MustCompile(`^[a-z]([a-z0-9_]{0,18}[a-z0-9])?$`)
	aConstant = regexp.MustCompile(`^0\.([0-9]|[0-9]{1,5}[1-9])$`)
)

// yard reads tokens one by one, with a stack of signs and brackets that wait: a second reading of what a formula is.
type yard struct {
	f       api.FoFormula
	waiting []string
	behind  bool // an operand has been read, and a sign or a bracket can follow
}

// binds says how tightly a sign binds.
func binds(sign string) int { return map[string]int{"+": 1, "-": 1, "*": 2}[sign] }

// leave does the signs that wait, as long as they bind at least as tightly as said.
func (y *yard) leave(tightly int) {
	for len(y.waiting) > 0 {
		sign := y.waiting[len(y.waiting)-1]
		if binds(sign) < tightly {
			return
		}
		y.f.Code = append(y.f.Code, op(map[string]int{"+": api.FoAdd, "-": api.FoSub, "*": api.FoMul}[sign]))
		y.waiting = y.waiting[:len(y.waiting)-1]
	}
}

// leaf reads a name or a constant.
func (y *yard) leaf(text string) {
	x := &tree{kind: api.FoConst, text: text}
	if aName.MatchString(text) {
		x.kind = api.FoVar
		if !slices.Contains(y.f.Vars, text) {
			y.f.Vars = append(y.f.Vars, text)
		}
	}
	y.f.Code = append(y.f.Code, x.node(y.f.Vars))
	y.behind = true
}

// token reads a token, and says whether it can be there.
func (y *yard) token(text string) bool {
	switch {
	case !y.behind && text == "(":
		y.waiting = append(y.waiting, text)
	case !y.behind && (aName.MatchString(text) || aConstant.MatchString(text)):
		y.leaf(text)
	case y.behind && binds(text) > 0:
		y.leave(binds(text))
		y.waiting = append(y.waiting, text)
		y.behind = false
	case y.behind && text == ")" && slices.Contains(y.waiting, "("):
		y.leave(1)
		y.waiting = y.waiting[:len(y.waiting)-1]
	default:
		return false
	}
	return true
}

// readAgain returns the formula of a text, and where it is none (or -1), by a second reading.
func readAgain(text string) (f api.FoFormula, at int) {
	y := &yard{}
	for at < len(text) {
		if text[at] == ' ' {
			at++
			continue
		}
		token := aToken.FindString(text[at:])
		if !y.token(token) {
			return api.FoFormula{}, at
		}
		at += len(token)
	}
	if !y.behind || slices.Contains(y.waiting, "(") {
		return api.FoFormula{}, at
	}
	y.leave(1)
	return y.f, -1
}

// isLong says whether a formula is too great, by its parts.
func isLong(f api.FoFormula) bool {
	high, highest := 0, 0
	for _, n := range f.Code {
		high++
		if n.Kind >= api.FoAdd {
			high -= 2
		}
		highest = max(highest, high)
	}
	return len(f.Vars) > 8 || len(f.Code) > 40 || highest > 12
}

// agree checks Read of a text against the second reading.
func agree(t *testing.T, text string) api.Errno {
	t.Helper()
	want, at := readAgain(text)
	e := api.ErrForm
	switch {
	case len(text) > 600:
		want, at, e = api.FoFormula{}, 0, api.ErrLong
	case at == -1 && isLong(want):
		want, at, e = api.FoFormula{}, 0, api.ErrLong
	case at == -1:
		at, e = 0, api.OK
	}
	if f, a, g := formula.Read(text); !same(f, want) || a != at || g != e {
		t.Fatalf("Read of %q = %v, %d, %d; not %v, %d, %d", text, f, a, g, want, at, e)
	}
	return e
}

// P7.2: the chapter's examples, and what is computed first.
func TestRead(t *testing.T) {
	for text, want := range map[string]api.FoFormula{
		"a*(b-0.25)+b":         example(),
		" a - ( b-c )*(a*b)":   formulaWith("a b c", v(0), v(1), v(2), op(4), v(0), v(1), op(5), op(5), op(4)),
		"a":                    formulaWith("a", v(0)),
		"  a  ":                formulaWith("a", v(0)),
		"0.0":                  formulaWith("", c(0, 1)),
		"0.000001":             formulaWith("", c(1, 6)),
		"(((0.05)))":           formulaWith("", c(5, 2)),
		"( ( a ) )":            formulaWith("a", v(0)),
		"a-b-c":                formulaWith("a b c", v(0), v(1), op(4), v(2), op(4)),
		"a-(b-c)":              formulaWith("a b c", v(0), v(1), v(2), op(4), op(4)),
		"a-b+c":                formulaWith("a b c", v(0), v(1), op(4), v(2), op(3)),
		"a+b*c":                formulaWith("a b c", v(0), v(1), v(2), op(5), op(3)),
		"a*b+c":                formulaWith("a b c", v(0), v(1), op(5), v(2), op(3)),
		"a*b*c":                formulaWith("a b c", v(0), v(1), op(5), v(2), op(5)),
		"a*(b*c)":              formulaWith("a b c", v(0), v(1), v(2), op(5), op(5)),
		"(a+b)*(c-a)":          formulaWith("a b c", v(0), v(1), op(3), v(2), v(0), op(4), op(5)),
		"z+y+z":                formulaWith("z y", v(0), v(1), op(3), v(0), op(3)),
		"x_1*0.5":              formulaWith("x_1", v(0), c(5, 1), op(5)),
		"abcdefghijklmnopqrst": formulaWith("abcdefghijklmnopqrst", v(0)),
	} {
		if f := read(t, text); !same(f, want) {
			t.Errorf("Read of %q = %v", text, f)
		}
		agree(t, text)
	}
}

// P7.2: where the first token is that cannot be there.
func TestReadErrors(t *testing.T) {
	for text, at := range map[string]int{
		// The chapter's examples.
		"a*(b-0.250)+b": 5, "a*(b": 4, "a b": 2,
		// The end is too early.
		"": 0, " ": 1, "   ": 3, "a+": 2, "a+ ": 3, "(": 1, "( ": 2, "(a": 2, "(a+": 3, "((a)": 4, "a*(b ": 5, "a-b*": 4,
		// No operand.
		"+a": 0, "-a": 0, "*": 0, ")": 0, " )": 1, "()": 1, "( )": 2, "a+*b": 2, "a--b": 2, "a*-b": 2, "(-a)": 1, "(a+)": 3, "a+)": 2,
		// No operation.
		"a b c": 2, "a (b)": 2, "a(b)": 1, "(a)b": 3, "(a)(b)": 3, "(a) 0.5": 4, "0.5 0.5": 4, "a)": 1, "(a))": 3, "a+b)+(c": 3,
		// Bytes that belong to no token, also if one ahead of them can be there, or cannot.
		"a/b": 1, "a+/b": 2, "/": 0, "a\t": 1, "\ta": 0, "a\n": 1, "a+b,": 3, "a+b;c d": 3, "a b/": 2, "a b/c": 2, "a+é": 2, "aé": 1, "\x00": 0, "a\x00": 1, "a\xff": 1, "a^b": 1, "[a]": 0, "a\u00a0+b": 1,
		// Rows that are neither names nor constants.
		"A": 0, "aB": 0, "Ba": 0, "a+aB": 2, "a+Z": 2, "_a": 0, "a_": 0, "_": 0, "1a": 0, "a.b": 0, ".a": 0, "a.": 0, "a+b.": 2, "abcdefghijklmnopqrstu": 0,
		"0": 0, "1": 0, "0.": 0, ".5": 0, ".": 0, "..": 0, "1.5": 0, "1.0": 0, "00.5": 0, "0.5.5": 0, "0..5": 0, "0.5.": 0, "0.5x": 0, "0.x": 0, "0.5_": 0, "0_5": 0, "0.0_1": 0, "0.1e5": 0, "0x5": 0, "0.0x1": 0,
		"0.1234567": 0, "0.50": 0, "0.00": 0, "0.000000": 0, "0.0000001": 0, "0.123450": 0, "0.99999999999999999999999999": 0,
		"0.+5": 0, "0.-5": 0, "0. 5": 0, "0 .5": 0, "-0.5": 0, "a-0.50": 2, "a+0.5 5": 6, "a+0.5 b": 6,
	} {
		if f, k, e := formula.Read(text); !isZero(f) || k != at || e != api.ErrForm {
			t.Errorf("Read of %q = %v, %d, %d; not %d", text, f, k, e, at)
		}
		agree(t, text)
	}
}

// P7.2: all bytes, alone and behind a token of each sort.
func TestReadBytes(t *testing.T) {
	for b := range 256 {
		for _, before := range []string{"", "a", "a+", "(", "(a", "(a)", "0.5", "0.", "a "} {
			agree(t, before+string([]byte{byte(b)}))
			agree(t, before+string([]byte{byte(b)})+"1")
		}
	}
}

// P7.2: too many bytes, variables, nodes, and values on the pile; these are found only behind all tokens.
func TestReadLong(t *testing.T) {
	many := func(text string, count int) string { return strings.Repeat(text, count) }
	for text, want := range map[string]api.Errno{
		many(" ", 599) + "a": api.OK, many(" ", 600) + "a": api.ErrLong, many("a", 601): api.ErrLong, many("/", 601): api.ErrLong, many("/", 600): api.ErrForm,
		"a" + many(" ", 599): api.OK, "a" + many(" ", 600): api.ErrLong, many(" ", 600): api.ErrForm, many(" ", 100000): api.ErrLong,
		many("(", 600): api.ErrForm, many("(", 299) + "a" + many(")", 299): api.OK, many("(", 299) + "a+" + many(")", 299): api.ErrForm, many(")", 600): api.ErrForm,
		"a+b+c+d+e+f+g+h": api.OK, "a+b+c+d+e+f+g+h+i": api.ErrLong, "a+b+c+d+e+f+g+h+a": api.OK, "a+b+c+d+e+f+g+h+i+": api.ErrForm, "a+b+c+d+e+f+g+h+i)": api.ErrForm,
		"a" + many("+a", 19): api.OK, "a" + many("+a", 20): api.ErrLong, "a" + many("+a", 20) + "/": api.ErrForm, "a" + many("+a", 299): api.ErrLong, many("a+", 300): api.ErrForm, "a" + many("*a", 299): api.ErrLong,
		many("a-(", 11) + "a" + many(")", 11): api.OK, many("a-(", 12) + "a" + many(")", 12): api.ErrLong, many("a-(", 12) + "a" + many(")", 11): api.ErrForm, many("a-(", 120) + "a" + many(")", 120): api.ErrLong,
		many("a+b*(", 6) + "a" + many(")", 6): api.ErrLong, many("a+b*(", 5) + "a+b*a" + many(")", 5): api.ErrLong, many("a+b*(", 5) + "a+b" + many(")", 5): api.OK,
	} {
		f, at, e := formula.Read(text)
		if e != want || e == api.ErrLong && at != 0 || e == api.OK == isZero(f) {
			t.Errorf("Read of %q = %v, %d, %d", text, f, at, e)
		}
		agree(t, text)
	}
	for text, at := range map[string]int{many("(", 600): 600, many(" ", 600): 600, many("a+", 300): 600, "a" + many("+a", 20) + "/": 41, many("a-(", 12) + "a" + many(")", 11): 48} {
		if _, k, e := formula.Read(text); k != at || e != api.ErrForm {
			t.Errorf("Read of %q: %d, %d; not %d", text, k, e, at)
		}
	}
}

// spaced returns a text with blanks between tokens, and with brackets that are not needed.
func spaced(r *rand.Rand, x *tree) string {
	blank := func() string { return strings.Repeat(" ", max(0, r.IntN(5)-2)) }
	text := x.text
	if !x.isLeaf() {
		text = "(" + spaced(r, x.first) + x.sign() + spaced(r, x.second) + ")"
	} else if r.IntN(5) == 0 {
		text = "(" + blank() + text + blank() + ")"
	}
	return blank() + text + blank()
}

// P7.2: texts of trees, with all brackets and some blanks, are read as these trees.
func TestReadTrees(t *testing.T) {
	r := rand.New(rand.NewPCG(7, 2))
	for range 4000 {
		x := smallTree(r, 12)
		for _, text := range []string{x.brackets(), spaced(r, x)} {
			if len(text) > 600 {
				continue
			}
			if f := read(t, text); !same(f, x.formula()) {
				t.Fatalf("Read of %q = %v; not %v", text, f, x.formula())
			}
		}
	}
}

// P7.2: texts of any tokens, against a second reading.
func TestReadAnyTokens(t *testing.T) {
	r := rand.New(rand.NewPCG(7, 3))
	parts := []string{"a", "b", "x_1", "0.5", "0.25", "(", "(", ")", ")", "+", "-", "*", "+", "-", "*", " ", "  ", "0.50", "B", "c_", "/", "\t", "1", "."}
	met := map[api.Errno]int{}
	for range 60000 {
		var text strings.Builder
		wild := r.IntN(2) * 8
		for range r.IntN(14) {
			text.WriteString(parts[r.IntN(16+wild)])
		}
		met[agree(t, text.String())]++
	}
	// Texts with one change are closer to what can be read.
	for range 60000 {
		text := []byte(spaced(r, smallTree(r, 5)))
		at := r.IntN(len(text))
		change := parts[r.IntN(len(parts))]
		switch r.IntN(3) {
		case 0:
			text = slices.Delete(text, at, at+1)
		case 1:
			text = slices.Insert(text, at, []byte(change)...)
		default:
			text = slices.Replace(text, at, at+1, []byte(change)...)
		}
		met[agree(t, string(text))]++
	}
	if met[api.OK] < 10000 || met[api.ErrForm] < 10000 {
		t.Errorf("the errors are met so often: %v", met)
	}
}

// P7.2: great texts, at the limits and beyond, against a second reading.
func TestReadGreatTexts(t *testing.T) {
	r := rand.New(rand.NewPCG(7, 4))
	names := strings.Split("a b c d e f g h i j", " ")
	met := map[api.Errno]int{}
	for range 3000 {
		x := someTree(r, 1+r.IntN(30), names[:7+r.IntN(4)])
		met[agree(t, spaced(r, x))]++
		met[agree(t, x.brackets())]++
	}
	if met[api.OK] < 300 || met[api.ErrLong] < 300 {
		t.Errorf("the errors are met so often: %v", met)
	}
}
