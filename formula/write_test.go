package formula_test

import (
	"math/rand/v2"
	"strings"
	"testing"

	"quicksilver/api"
	"quicksilver/formula"
)

// P7.3: the chapter's examples, and each operand of each operation.
func TestWrite(t *testing.T) {
	for want, f := range map[string]api.FoFormula{
		"a*(b-0.25)+b":    example(),
		"a-(b-c)*(a*b)":   formulaWith("a b c", v(0), v(1), v(2), op(4), v(0), v(1), op(5), op(5), op(4)),
		"a":               formulaWith("a", v(0)),
		"0.0":             formulaWith("", c(0, 1)),
		"0.5":             formulaWith("", c(5, 1)),
		"0.05":            formulaWith("", c(5, 2)),
		"0.000001":        formulaWith("", c(1, 6)),
		"0.100001":        formulaWith("", c(100001, 6)),
		"0.0-0.9*x_1":     formulaWith("x_1", c(0, 1), c(9, 1), v(0), op(5), op(4)),
		"a+a-a+(a-a)":     formulaWith("a", v(0), v(0), op(3), v(0), op(4), v(0), v(0), op(4), op(3)),
		"a*a*(a*a)*a":     formulaWith("a", v(0), v(0), op(5), v(0), v(0), op(5), op(5), v(0), op(5)),
		"(a-a)*a*(a+a)":   formulaWith("a", v(0), v(0), op(4), v(0), op(5), v(0), v(0), op(3), op(5)),
		"a*a-a*a-(a-a)":   formulaWith("a", v(0), v(0), op(5), v(0), v(0), op(5), op(4), v(0), v(0), op(4), op(4)),
		"a-(a+(a-(a+a)))": formulaWith("a", v(0), v(0), v(0), v(0), v(0), op(3), op(4), op(3), op(4)),
	} {
		if text := write(t, f); text != want {
			t.Errorf("Write of %v = %q; not %q", f, text, want)
		}
	}
	// Each operation as each operand of each other one.
	for kind, want := range map[int][]string{
		api.FoAdd: {"a+a+a", "a-a+a", "a*a+a", "a+(a+a)", "a+(a-a)", "a+a*a"},
		api.FoSub: {"a+a-a", "a-a-a", "a*a-a", "a-(a+a)", "a-(a-a)", "a-a*a"},
		api.FoMul: {"(a+a)*a", "(a-a)*a", "a*a*a", "a*(a+a)", "a*(a-a)", "a*(a*a)"},
	} {
		for i := range 3 {
			first := formulaWith("a", v(0), v(0), op(api.FoAdd+i), v(0), op(kind))
			second := formulaWith("a", v(0), v(0), v(0), op(api.FoAdd+i), op(kind))
			if text, other := write(t, first), write(t, second); text != want[i] || other != want[3+i] {
				t.Errorf("Write = %q, %q; not %q, %q", text, other, want[i], want[3+i])
			}
		}
	}
}

// withoutPair returns a text without the bracket at an index and the one that belongs to it.
func withoutPair(text string, at int) string {
	deep := 0
	for k := at; ; k++ {
		switch text[k] {
		case '(':
			deep++
		case ')':
			deep--
		}
		if deep == 0 {
			return text[:at] + text[at+1:k] + text[k+1:]
		}
	}
}

// P7.3, P7.9: Read of what Write returns is the formula; there are no blanks, and no brackets that are not needed.
func TestWriteAndRead(t *testing.T) {
	r := rand.New(rand.NewPCG(7, 5))
	for range 6000 {
		f := smallTree(r, 20).formula()
		text := write(t, f)
		if g := read(t, text); !same(f, g) {
			t.Fatalf("Write of %v = %q; Read = %v", f, text, g)
		}
		if strings.Contains(text, " ") {
			t.Fatalf("Write of %v = %q", f, text)
		}
		for at := range text {
			if text[at] != '(' {
				continue
			}
			if g := read(t, withoutPair(text, at)); same(f, g) {
				t.Fatalf("Write of %v = %q: no need of the brackets from %d on", f, text, at)
			}
		}
	}
}

// P7.9: Write of what Read returns, read again, is the same formula; and it is written in the same way again.
func TestReadAndWrite(t *testing.T) {
	r := rand.New(rand.NewPCG(7, 6))
	for range 6000 {
		text := spaced(r, smallTree(r, 14))
		f, _, e := formula.Read(text)
		if e == api.ErrLong && len(text) > api.MaxFoText {
			continue
		}
		written := write(t, f)
		if g := read(t, written); e != api.OK || !same(f, g) || write(t, g) != written {
			t.Fatalf("Read of %q = %v; Write = %q; Read = %v", text, f, written, g)
		}
	}
}

// P7.9: the longest text of all can be read again.
func TestLongestText(t *testing.T) {
	name := strings.Repeat("n", 20)
	f := formulaWith(name, append(append([]api.FoNode{}, v(0), v(0), op(3)), repeated(9, v(0), v(0), op(3), op(5))...)...)
	text := write(t, f)
	if g := read(t, text); !same(f, g) || len(text) != 20*20+19+2*10 {
		t.Errorf("Write = %q, of %d bytes", text, len(text))
	}
}

// repeated returns some nodes so many times.
func repeated(times int, nodes ...api.FoNode) []api.FoNode {
	var all []api.FoNode
	for range times {
		all = append(all, nodes...)
	}
	return all
}
