package pulse

import (
	"iter"

	"quicksilver/api"
)

// pulseMachine is a machine that works beat by beat, on pulses; bit is the beat that comes next, in which this bit of each word comes by.
type pulseMachine struct {
	control
	lines           [][]bool
	bit, carry, sum int
	add             func(x, y int) int
}

// onPulses returns a machine in a copy of a state of pulses.
func onPulses(b api.PuBits) *pulseMachine {
	m := &pulseMachine{control: control{alone(b.Now)}, bit: b.Beat, carry: b.Carry, sum: b.Sum}
	for _, line := range b.Lines {
		m.lines = append(m.lines, copied(line))
	}
	m.add = adder(&m.carry)
	return m
}

// adder returns what adds two pulses and its carry, which it keeps for the next ones.
func adder(carry *int) func(x, y int) int {
	return func(x, y int) int {
		c := x + y + *carry
		*carry = c / 2
		return c % 2
	}
}

// state returns the state of pulses that the machine is in.
func (m *pulseMachine) state() api.PuBits {
	return api.PuBits{Lines: m.lines, Now: m.PuState, Beat: m.bit, Carry: m.carry, Sum: m.sum}
}

// beat does a beat, and returns why the run has ended.
func (m *pulseMachine) beat() int {
	if !m.goes() {
		return m.Why
	}
	address, comes := m.awaited()
	for line, pulse := range comeBy(m.lines, placeOf(m.Clock), m.bit) {
		if comes && line == address/api.OrPlaces {
			m.work(pulse)
		}
	}
	// The multiplier needs half a minor cycle for a bit.
	const half = api.OrBits / 2
	if m.Phase == api.PuCount && m.bit%half == half-1 {
		m.multiply(m.bit / half)
	}
	m.bit++
	if m.bit == api.OrBits {
		word := m.sum
		m.bit, m.carry, m.sum = 0, 0, 0
		m.turn(word, comes)
	}
	return m.Why
}

// work takes a pulse in, or changes it, as the phase does.
func (m *pulseMachine) work(pulse *bool) {
	x, y := numberOf(*pulse), bitOf(m.Operand, m.bit)
	switch m.does() {
	case takesIn:
		m.sum += x << m.bit
	case replaces:
		*pulse = bitOf(m.given(), m.bit) == 1
	case adds:
		*pulse = m.add(x, y) == 1
	case subtracts:
		// What is taken away is added with all its pulses turned, and 1 more.
		if m.bit == 0 {
			m.carry = 1
		}
		*pulse = m.add(x, 1-y) == 1
	}
}

// comeBy yields the pulses that come by in a beat of a minor cycle, one of each line.
func comeBy(lines [][]bool, place, bit int) iter.Seq2[int, *bool] {
	return func(yield func(int, *bool) bool) {
		for i, line := range lines {
			if !yield(i, &line[place*api.OrBits+bit]) {
				return
			}
		}
	}
}

// pulsesOf returns lines with the words of a store.
func pulsesOf(store []int) [][]bool {
	lines := make([][]bool, api.OrLines)
	for i := range lines {
		lines[i] = make([]bool, api.OrPlaces*api.OrBits)
	}
	for beat := range api.OrPlaces * api.OrBits {
		place, bit := beat/api.OrBits, beat%api.OrBits
		for line, pulse := range comeBy(lines, place, bit) {
			*pulse = bitOf(store[line*api.OrPlaces+place], bit) == 1
		}
	}
	return lines
}

// wordsOf returns the store whose words are in lines.
func wordsOf(lines [][]bool) []int {
	store := make([]int, api.OrStore)
	for beat := range api.OrPlaces * api.OrBits {
		place, bit := beat/api.OrBits, beat%api.OrBits
		for line, pulse := range comeBy(lines, place, bit) {
			store[line*api.OrPlaces+place] += numberOf(*pulse) << bit
		}
	}
	return store
}

// numberOf returns 1 for a pulse, and 0 for none.
func numberOf(pulse bool) int {
	if pulse {
		return 1
	}
	return 0
}
