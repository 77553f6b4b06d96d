package gate

import (
	"slices"

	"quicksilver/api"
)

// work is a net at work, several times at once: the bit k of each word is that of the net k. These nets have the same gates; their faults, states and inputs are their own.
type work struct {
	api.GaNet
	count     int      // of the nets, at most 64
	signals   []uint64 // in the beat that was done last
	held      []uint64 // for each signal of a delay, what it is in the beat that comes
	low, high []uint64 // for each signal, the nets in which it is stuck at 0, and at 1
}

// start returns some nets in the state 0, without a fault.
func start(n api.GaNet, count int) *work {
	words := func() []uint64 { return make([]uint64, signals(n)) }
	return &work{GaNet: n, count: count, signals: words(), held: words(), low: words(), high: words()}
}

// stick gives a fault to some of the nets.
func (w *work) stick(f api.GaFault, nets uint64) {
	if f.Stuck == 0 {
		w.low[f.Signal] |= nets
	} else {
		w.high[f.Signal] |= nets
	}
}

// set puts each net into a state.
func (w *work) set(states []int) {
	own := delays(w.GaNet)
	for i, word := range pack(states, len(own)) {
		w.held[own[i]] = word
	}
}

// states returns the state of each net.
func (w *work) states() []int {
	var words []uint64
	for _, own := range delays(w.GaNet) {
		words = append(words, w.held[own])
	}
	return unpack(words, w.count)
}

// beat does a beat with an input for each net, and returns the output of each net.
func (w *work) beat(inputs []int) []int {
	kinds := [...]func(own int) uint64{
		api.GaAnd:   w.and,
		api.GaOr:    w.or,
		api.GaXor:   w.xor,
		api.GaNot:   w.not,
		api.GaDelay: w.delay,
	}
	put := pack(inputs, w.Inputs)
	for own := range w.signals {
		var word uint64
		if own < w.Inputs {
			word = put[own]
		} else {
			word = kinds[w.gate(own).Kind](own)
		}
		w.signals[own] = word&^w.low[own] | w.high[own]
	}
	// Only now: a delay can take a signal that comes after its own.
	for _, own := range delays(w.GaNet) {
		w.held[own] = w.signals[w.gate(own).A]
	}
	var words []uint64
	for _, signal := range w.Outputs {
		words = append(words, w.signals[signal])
	}
	return unpack(words, w.count)
}

// gate returns the gate with a signal.
func (w *work) gate(own int) api.GaGate { return w.Gates[own-w.Inputs] }

// taken returns the signals that the gate with a signal takes.
func (w *work) taken(own int) (a, b uint64) {
	g := w.gate(own)
	return w.signals[g.A], w.signals[g.B]
}

func (w *work) and(own int) uint64 {
	a, b := w.taken(own)
	return a & b
}

func (w *work) or(own int) uint64 {
	a, b := w.taken(own)
	return a | b
}

func (w *work) xor(own int) uint64 {
	a, b := w.taken(own)
	return a ^ b
}

func (w *work) not(own int) uint64 {
	a, _ := w.taken(own)
	return ^a
}

func (w *work) delay(own int) uint64 { return w.held[own] }

// answers returns the outputs of a net for some inputs, from the state 0 on: those without a fault, and then those with each of some faults.
func answers(n api.GaNet, faults []api.GaFault, inputs []int) [][]int {
	w := start(n, len(faults)+1)
	for i, f := range faults {
		w.stick(f, 1<<(i+1))
	}
	outputs := make([][]int, w.count)
	for _, input := range inputs {
		for k, output := range w.beat(slices.Repeat([]int{input}, w.count)) {
			outputs[k] = append(outputs[k], output)
		}
	}
	return outputs
}

// pack returns words of which the bit k of the word i is the bit i of the number k.
func pack(numbers []int, bits int) []uint64 {
	words := make([]uint64, bits)
	for k, n := range numbers {
		for i := range words {
			words[i] |= uint64(n>>i&1) << k
		}
	}
	return words
}

// unpack returns the first of the numbers of which words are packed.
func unpack(words []uint64, count int) []int {
	numbers := make([]int, count)
	for k := range numbers {
		for i, word := range words {
			numbers[k] |= int(word>>k&1) << i
		}
	}
	return numbers
}
