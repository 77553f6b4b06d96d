package gate_test

import (
	"math/rand/v2"
	"strings"
	"testing"

	"quicksilver/api"
	"quicksilver/gate"
)

// adderText is the text of the serial adder.
const adderText = "inputs 2\ndelay 7\nxor 0 1\nxor 3 2\nand 0 1\nand 3 2\nor 5 6\noutputs 4\n"

// longest returns a net of which the text is as long as any.
func longest() api.GaNet {
	n := api.GaNet{Inputs: 6, Outputs: []int{29, 29, 29, 29}}
	for range 5 {
		n.Gates = append(n.Gates, g(api.GaDelay, 29, 0))
	}
	for i := 5; i < 24; i++ {
		n.Gates = append(n.Gates, g(api.GaAnd, 5+i, 5+i))
	}
	return n
}

// P2.7: the example, and all kinds.
func TestWriteAndRead(t *testing.T) {
	for i, c := range []struct {
		n    api.GaNet
		text string
	}{
		{gate.Adder(), adderText},
		{one(0), "inputs 1\noutputs 0\n"},
		{api.GaNet{Inputs: 6, Outputs: []int{5, 0, 5, 1}}, "inputs 6\noutputs 5 0 5 1\n"},
		{api.GaNet{Inputs: 1, Gates: []api.GaGate{g(1, 0, 0), g(2, 1, 0), g(3, 0, 2), g(4, 3, 0), g(5, 5, 0)}, Outputs: []int{5, 4}}, "inputs 1\nand 0 0\nor 1 0\nxor 0 2\nnot 3\ndelay 5\noutputs 5 4\n"},
		{api.GaNet{Inputs: 6, Gates: []api.GaGate{g(4, 5, 0), g(4, 6, 0), g(4, 7, 0), g(4, 8, 0), g(4, 9, 0), g(1, 10, 10)}, Outputs: []int{11}}, "inputs 6\nnot 5\nnot 6\nnot 7\nnot 8\nnot 9\nand 10 10\noutputs 11\n"},
	} {
		if text, e := gate.Write(c.n); text != c.text || e != api.OK {
			t.Errorf("%d: Write = %q, %d", i, text, e)
		}
		if n, e := gate.Read(c.text); !same(n, c.n) || e != api.OK {
			t.Errorf("%d: Read = %v, %d", i, n, e)
		}
	}
}

// P2.7: texts of no net, and too many bytes.
func TestReadErrors(t *testing.T) {
	bad := []string{"", " ", "\n", "\n\n", "inputs", "inputs 1", "inputs 1\n", "outputs 0\n",
		// Lines that are missing, or too many, or in another order.
		"inputs 1\noutputs 0\n\n", "\ninputs 1\noutputs 0\n", "inputs 1\n\noutputs 0\n", "inputs 1\noutputs 0\noutputs 0\n", "inputs 1\ninputs 1\noutputs 0\n", "outputs 0\ninputs 1\n", "inputs 1\noutputs 0\nnot 0\n", "inputs 1\noutputs 0\ninputs 1\noutputs 0\n", "not 0\ninputs 1\noutputs 0\n",
		// Other words.
		"input 1\noutputs 0\n", "Inputs 1\noutputs 0\n", "inputs 1\noutput 0\n", "inputs 1\nNOT 0\noutputs 0\n", "inputs 1\nnand 0 0\noutputs 0\n", "inputs 1\n 0\noutputs 0\n", "inputs 1\n 0 0\noutputs 0\n", "inputs 1\n4 0\noutputs 0\n", "inputs 1\nnots 0\noutputs 0\n", "and 1\noutputs 0\n",
		// Too few or too many numbers.
		"inputs\noutputs 0\n", "inputs 1 1\noutputs 0\n", "inputs 1\noutputs\n", "inputs 1\noutputs 0 0 0 0 0\n", "inputs 1\nand 0\noutputs 0\n", "inputs 1\nor\noutputs 0\n", "inputs 1\nxor 0 0 0\noutputs 0\n", "inputs 1\nnot\noutputs 0\n", "inputs 1\nnot 0 0\noutputs 0\n", "inputs 1\ndelay 0 0\noutputs 0\n",
		// Numbers that are written in another way.
		"inputs 01\noutputs 0\n", "inputs +1\noutputs 0\n", "inputs 1\noutputs 00\n", "inputs 1\noutputs -0\n", "inputs 1\noutputs +0\n", "inputs 0x1\noutputs 0\n", "inputs 1\noutputs 0_0\n", "inputs 1\noutputs zero\n", "inputs 1.0\noutputs 0\n", "inputs \u0661\noutputs 0\n", "inputs 18446744073709551617\noutputs 0\n",
		// Other spaces, and other ends of lines.
		" inputs 1\noutputs 0\n", "inputs  1\noutputs 0\n", "inputs 1 \noutputs 0\n", "inputs\t1\noutputs 0\n", "inputs 1\noutputs \n", "inputs 1\noutputs 0 \n", "inputs 1\nnot 0 \noutputs 0\n", "inputs 1\nand 0  0\noutputs 0\n", "inputs 1\r\noutputs 0\r\n", "inputs 1\noutputs 0\r\n", "inputs 1\routputs 0\r", "inputs 1\noutputs 0", "inputs 1\noutputs 0\n ", "inputs 1\noutputs 0\n\x00", "inputs1\noutputs 0\n",
		// Texts of what is no net.
		"inputs 0\noutputs 0\n", "inputs 7\noutputs 0\n", "inputs -1\noutputs 0\n", "inputs 1\noutputs 1\n", "inputs 1\noutputs -1\n", "inputs 1\nand 0 1\noutputs 0\n", "inputs 1\nand 1 0\noutputs 0\n", "inputs 1\nnot 1\noutputs 0\n", "inputs 1\ndelay 2\noutputs 0\n", "inputs 1\ndelay -1\noutputs 0\n",
		"inputs 1\n" + strings.Repeat("delay 0\n", 6) + "outputs 0\n", "inputs 1\n" + strings.Repeat("not 0\n", 25) + "outputs 0\n",
		strings.Repeat("x", 600), strings.Repeat("\n", 600), strings.Repeat(" ", 600), strings.Repeat("\xff", 600),
		"inputs 1\noutputs 0" + strings.Repeat(" 0", 290) + "\n",
	}
	for n := range len(adderText) { // texts that end too early
		bad = append(bad, adderText[:n])
	}
	for _, text := range bad {
		if n, e := gate.Read(text); !isZero(n) || e != api.ErrForm {
			t.Errorf("%q: Read = %v, %d", text, n, e)
		}
	}
	for _, text := range []string{strings.Repeat("x", 601), adderText + strings.Repeat("\n", 600), strings.Repeat(adderText, 1000)} {
		if n, e := gate.Read(text); !isZero(n) || e != api.ErrLong {
			t.Errorf("Read of %d bytes = %v, %d", len(text), n, e)
		}
	}
	if n, e := gate.Read("inputs 1\n" + strings.Repeat("delay 0\n", 5) + strings.Repeat("not 0\n", 19) + "outputs 0 0 0 0\n"); len(n.Gates) != 24 || e != api.OK {
		t.Errorf("Read = %v, %d", n, e)
	}
}

// P2.14: Read of what Write returns is the net.
func TestTextsOfNets(t *testing.T) {
	r := rand.New(rand.NewPCG(71, 72))
	for i := range 1500 {
		n := someNet(r, between(r, 1, 6), 24, 5)
		if i == 0 {
			n = longest()
		}
		text, e := gate.Write(n)
		if e != api.OK || len(text) > api.MaxGaText {
			t.Fatalf("Write of %v = %q, %d", n, text, e)
		}
		if m, e := gate.Read(text); !same(n, m) || e != api.OK {
			t.Fatalf("Read of %q = %v, %d; not %v", text, m, e, n)
		}
	}
}

// P2.14: Write of whatever Read accepts is the same text; what it does not accept has ErrForm.
func TestReadOfAnyText(t *testing.T) {
	r := rand.New(rand.NewPCG(73, 74))
	const bytes = "00112233456789 \n-+andorxtelyipus"
	accepted, changed := 0, 0
	for range 60000 {
		was, _ := gate.Write(someNet(r, between(r, 1, 6), 6, 3))
		text := []byte(was)
		for range between(r, 1, 2) {
			at := r.IntN(len(text))
			// Most texts stay texts of a net if a number is changed.
			for r.IntN(8) > 0 && (text[at] < '0' || text[at] > '9') {
				at = r.IntN(len(text))
			}
			switch r.IntN(3) {
			case 0:
				text[at] = bytes[r.IntN(len(bytes))]
			case 1:
				text = append(text[:at], text[at+1:]...)
			default:
				text = append(text[:at], append([]byte{bytes[r.IntN(len(bytes))]}, text[at:]...)...)
			}
		}
		n, e := gate.Read(string(text))
		if e != api.OK {
			if !isZero(n) || e != api.ErrForm {
				t.Fatalf("Read of %q = %v, %d", text, n, e)
			}
			continue
		}
		accepted++
		if string(text) != was {
			changed++
		}
		if _, _, e := gate.Check(n); e != api.OK {
			t.Fatalf("Read of %q = %v, which is no net: %d", text, n, e)
		}
		if again, e := gate.Write(n); again != string(text) || e != api.OK {
			t.Fatalf("Read of %q = %v; Write = %q, %d", text, n, again, e)
		}
	}
	if accepted < 1500 || changed < 1000 {
		t.Errorf("%d texts were accepted, %d of them changed", accepted, changed)
	}
}
