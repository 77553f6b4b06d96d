package gate

import (
	"strconv"
	"strings"

	"quicksilver/api"
)

// The words with which the first and the last line of a text begin.
const (
	wordInputs  = "inputs"
	wordOutputs = "outputs"
)

// The words of the kinds of gates.
var kindWords = [...]string{
	api.GaAnd:   "and",
	api.GaOr:    "or",
	api.GaXor:   "xor",
	api.GaNot:   "not",
	api.GaDelay: "delay",
}

// Write returns the text of a net.
func Write(n api.GaNet) (string, api.Errno) {
	if e := errorOfNet(n); e != api.OK {
		return "", e
	}
	text := lineOf(wordInputs, []int{n.Inputs})
	for _, g := range n.Gates {
		taken := []int{g.A, g.B}
		text += lineOf(kindWords[g.Kind], taken[:takes(g.Kind)])
	}
	return text + lineOf(wordOutputs, n.Outputs), api.OK
}

// lineOf returns the line of a word and numbers.
func lineOf(word string, numbers []int) string {
	for _, n := range numbers {
		word += " " + strconv.Itoa(n)
	}
	return word + "\n"
}

// Read returns the net of a text.
func Read(text string) (n api.GaNet, e api.Errno) {
	if len(text) > api.MaxGaText {
		return api.GaNet{}, api.ErrLong
	}
	defer func() {
		if recover() != nil {
			n, e = api.GaNet{}, api.ErrForm
		}
	}()
	r := reader{text}
	n = r.net()
	if errorOfNet(n) != api.OK {
		return api.GaNet{}, api.ErrForm
	}
	return n, api.OK
}

// reader is the rest of a text, which is still to be read. Its methods panic if the text goes on in another way.
type reader struct{ rest string }

// net reads all of a text.
func (r *reader) net() api.GaNet {
	var n api.GaNet
	word, numbers := r.line()
	mustBe(word == wordInputs && len(numbers) == 1)
	n.Inputs = numbers[0]
	for {
		word, numbers = r.line()
		if word == wordOutputs {
			break
		}
		n.Gates = append(n.Gates, gateOf(word, numbers))
	}
	n.Outputs = numbers
	mustBe(r.rest == "")
	return n
}

// line reads a line: a word and numbers.
func (r *reader) line() (word string, numbers []int) {
	line, rest, ended := strings.Cut(r.rest, "\n")
	mustBe(ended)
	r.rest = rest
	parts := strings.Split(line, " ")
	for _, part := range parts[1:] {
		n, err := strconv.Atoi(part)
		// Only a number as it is written is the same again: it has no plus sign, and no zeros at the beginning.
		mustBe(err == nil && strconv.Itoa(n) == part)
		numbers = append(numbers, n)
	}
	return parts[0], numbers
}

// gateOf returns the gate of a line, or panics.
func gateOf(word string, numbers []int) api.GaGate {
	for kind := api.GaAnd; kind <= api.GaDelay; kind++ {
		if kindWords[kind] != word {
			continue
		}
		mustBe(len(numbers) == takes(kind))
		// A gate that takes one signal has 0 for the other one.
		numbers = append(numbers, 0)
		return api.GaGate{Kind: kind, A: numbers[0], B: numbers[1]}
	}
	panic(api.ErrForm)
}

// mustBe panics if what a text needs is not so.
func mustBe(so bool) {
	if !so {
		panic(api.ErrForm)
	}
}
