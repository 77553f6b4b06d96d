package order

import (
	"iter"
	"slices"

	"quicksilver/api"
)

// machine is a machine at work, with a state that nobody else has.
type machine struct{ api.OrState }

// atWork returns a machine in a copy of a state.
func atWork(s api.OrState) *machine {
	s.Store, s.Tape, s.Printed = slices.Clone(s.Store), slices.Clone(s.Tape), slices.Clone(s.Printed)
	return &machine{s}
}

// steps does orders, at most so many, until the run ends, and yields each one that is done.
func (m *machine) steps(most int) iter.Seq[api.OrStep] {
	return func(yield func(api.OrStep) bool) {
	run:
		for range most {
			step, next := m.comes()
			m.Why = m.ends(step)
			switch m.Why {
			case api.OrGoing:
				m.do(step.Order)
				m.At, m.Time = next, step.Until
				m.Done++
			default:
				break run
			}
			if !yield(step) {
				break run
			}
		}
	}
}

// comes returns the order that is taken, and the address of the next one (with OrHalt there is none, and Until and the address say nothing).
func (m *machine) comes() (step api.OrStep, next int) {
	o := written(m.Store[m.At])
	next, until := when(o, m.Time, signed(m.Store[o.From]) < 0)
	return api.OrStep{At: m.At, Order: o, Time: m.Time, Until: until}, next
}

// ends returns why the run has ended, or ends at an order.
func (m *machine) ends(s api.OrStep) int {
	op := s.Order.Op
	switch {
	case m.Why != api.OrGoing:
		return m.Why
	case op == api.OrHalt:
		return api.OrHalted
	case op == api.OrRead && m.Taken == len(m.Tape):
		return api.OrNoTape
	case op == api.OrPrint && len(m.Printed) == api.MaxOrPrints:
		return api.OrFull
	case s.Until > api.MaxOrTime:
		return api.OrLate
	}
	return api.OrGoing
}

// do changes what an order changes in the store, the tape and the paper.
func (m *machine) do(o api.OrOrder) {
	word := m.Store[o.From]
	var work func(word, to int)
	switch o.Op {
	case api.OrMove:
		work = m.replace
	case api.OrSub:
		word = -word
		fallthrough
	case api.OrAdd:
		work = m.add
	case api.OrMul:
		work = m.multiply
	case api.OrRead:
		work = m.read
	case api.OrPrint:
		work = m.print
	default:
		return // OrTest only chooses the next order.
	}
	work(word, o.To)
}

// replace writes a number, modulo all words.
func (m *machine) replace(n, to int) { m.Store[to] = toWord(n) }

func (m *machine) add(n, to int) { m.replace(m.Store[to]+n, to) }

func (m *machine) multiply(word, to int) {
	product := signed(word) * signed(m.Store[to])
	// A shift rounds down also what is below 0.
	m.replace(product>>(api.OrBits-1), to)
}

func (m *machine) read(_, to int) {
	m.replace(m.Tape[m.Taken], to)
	m.Taken++
}

func (m *machine) print(word, _ int) { m.Printed = append(m.Printed, word) }
