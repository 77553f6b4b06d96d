package pulse

import "quicksilver/api"

// wordMachine is a machine that works minor cycle by minor cycle, on words.
type wordMachine struct{ control }

// onWords returns a machine in a copy of a state.
func onWords(s api.PuState) *wordMachine {
	return &wordMachine{control{withStore(alone(s), copied(s.Store))}}
}

// minor does a minor cycle, and returns why the run has ended.
func (m *wordMachine) minor() int {
	if !m.goes() {
		return m.Why
	}
	if m.Phase == api.PuCount {
		m.multiply(0)
		m.multiply(1)
	}
	var word int
	address, comes := m.awaited()
	if comes {
		word = m.Store[address]
		m.work(address)
	}
	m.turn(word, comes)
	return m.Why
}

// work changes the word at an address, if the phase does.
func (m *wordMachine) work(address int) {
	word := m.Store[address]
	switch m.does() {
	case replaces:
		word = m.given()
	case adds:
		word += m.Operand
	case subtracts:
		word -= m.Operand
	}
	m.Store[address] = toWord(word)
}

// until does minor cycles until the phase is another one, or the run has ended, and returns how many.
func (m *wordMachine) until() int {
	phase, many := m.Phase, 0
	for m.Phase == phase && m.Why == api.OrGoing {
		m.minor()
		many++
	}
	return many
}

// alone returns a copy of a state, without the store.
func alone(s api.PuState) api.PuState {
	s.Store, s.Tape, s.Printed = nil, copied(s.Tape), copied(s.Printed)
	return s
}

// withStore returns a state with another store.
func withStore(s api.PuState, store []int) api.PuState {
	s.Store = store
	return s
}

// copied returns a list that shares no memory with another one.
func copied[T any](list []T) []T {
	fresh := make([]T, len(list))
	copy(fresh, list)
	return fresh
}
