package pulse_test

import (
	"math/rand/v2"
	"testing"

	"quicksilver/api"
	"quicksilver/pulse"
)

// bit returns a bit of a word.
func bit(word, b int) int { return word / (1 << b) % 2 }

// somePulses returns any state of pulses, often within a minor cycle.
func somePulses(t *testing.T, r *rand.Rand) api.PuBits {
	b := bits(t, some(r))
	// Most words of a random state come by much later.
	if at := awaitedByDefinition(b.Now); at != -1 && b.Now.Clock < 999999000 && r.IntN(2) == 0 {
		b.Now.Clock += modulo(at-b.Now.Clock, 16)
	}
	if r.IntN(3) > 0 {
		b.Beat = r.IntN(24)
		b.Sum = r.IntN(1 << b.Beat)
		b.Carry = r.IntN(min(b.Beat, 1) + 1)
	}
	return b
}

// workByDefinition does with the pulse that comes by what the phase does.
func workByDefinition(b *api.PuBits, pulse *bool) {
	what, _, _, _ := read(b.Now.Order)
	x, y := 0, bit(b.Now.Operand, b.Beat)
	if *pulse {
		x = 1
	}
	switch {
	case b.Now.Phase == api.PuWrite:
		*pulse = bit(modulo(floor(b.Now.Product), 1<<24), b.Beat) == 1
	case b.Now.Phase != api.PuTo || what == api.OrMul:
		b.Sum += x * (1 << b.Beat)
	case what == api.OrMove:
		*pulse = y == 1
	case what == api.OrRead:
		*pulse = bit(b.Now.Tape[b.Now.Taken], b.Beat) == 1
	case what == api.OrAdd:
		c := x + y + b.Carry
		*pulse, b.Carry = c%2 == 1, c/2
	case what == api.OrSub:
		c := x + 1 - y + b.Carry
		if b.Beat == 0 {
			c = x + 1 - y + 1
		}
		*pulse, b.Carry = c%2 == 1, c/2
	}
}

// beatByDefinition does a beat as the chapter says it.
func beatByDefinition(b *api.PuBits) {
	if b.Now.Why != api.OrGoing {
		return
	}
	if b.Now.Clock == 1000000000 {
		b.Now.Why = api.OrLate
		return
	}
	at, place := awaitedByDefinition(b.Now), b.Now.Clock%16
	comes := at != -1 && at%16 == place
	if comes {
		workByDefinition(b, &b.Lines[at/16][24*place+b.Beat])
	}
	if at == -1 && b.Beat == 11 {
		countByDefinition(&b.Now, 24-2*b.Now.Count)
	}
	if at == -1 && b.Beat == 23 {
		countByDefinition(&b.Now, 25-2*b.Now.Count)
	}
	b.Beat++
	if b.Beat < 24 {
		return
	}
	if comes || at == -1 {
		phaseByDefinition(&b.Now, b.Sum)
	}
	b.Beat, b.Carry, b.Sum = 0, 0, 0
	if b.Now.Why == api.OrGoing {
		b.Now.Clock++
	}
}

// P5.5: any states of pulses, also such as no beats before would leave, against the chapter's definitions.
func TestBeatsByDefinition(t *testing.T) {
	r := rand.New(rand.NewPCG(91, 92))
	phases := map[int]int{}
	for range 4000 {
		b, many := somePulses(t, r), r.IntN(40)
		if r.IntN(10) == 0 {
			many = r.IntN(3000)
		}
		phases[b.Now.Phase]++
		want := clonedPulses(b)
		for range many {
			beatByDefinition(&want)
		}
		if got := beats(t, b, many); !samePulses(got, want) {
			t.Fatalf("Beats of %v, %d = %v; not %v", b, many, got, want)
		}
		if x, e := pulse.Beats(want, 0); !samePulses(x, want) || e != api.OK {
			t.Fatalf("Beats of %v, 0 = %v, %d", want, x, e)
		}
	}
	for i := range 5 {
		if phases[i] < 300 {
			t.Errorf("only %d times the phase %d", phases[i], i)
		}
	}
}

// P5.5: how many beats one call does.
func TestBeatsRange(t *testing.T) {
	b := bits(t, begin(t, []int{op(api.OrTest, 1, 0, 0)}, nil))
	for _, many := range beyond(60000) {
		if x, e := pulse.Beats(b, many); !samePulses(x, api.PuBits{}) || e != api.ErrRange {
			t.Errorf("Beats of %d = %v, %d", many, x, e)
		}
	}
	for _, many := range []int{0, 1, 23, 24, 59999, 60000} {
		if x, e := pulse.Beats(b, many); x.Now.Clock != many/24 || x.Beat != many%24 || e != api.OK {
			t.Errorf("Beats of %d = %v, %d", many, x, e)
		}
	}
}

// P5.4: where the pulses of each bit of each word are.
func TestBits(t *testing.T) {
	for address := range 128 {
		for b := range 24 {
			s := program(t)
			s.Store = make([]int, 128)
			s.Store[address] = 1 << b
			x := bits(t, s)
			if len(x.Lines) != 8 || len(x.Now.Store) != 0 || x.Beat != 0 || x.Carry != 0 || x.Sum != 0 || numbers(x.Now) != numbers(s) {
				t.Fatalf("Bits of %v = %v", s, x)
			}
			for line := range x.Lines {
				if len(x.Lines[line]) != 384 {
					t.Fatalf("a line of %d pulses", len(x.Lines[line]))
				}
				for i, p := range x.Lines[line] {
					if p != (line == address/16 && i == address%16*24+b) {
						t.Fatalf("the bit %d of the word %d: %v at %d, %d", b, address, p, line, i)
					}
				}
			}
			if y := words(t, x); !same(y, s) {
				t.Fatalf("Words = %v", y)
			}
		}
	}
}

// P5.4: a state of pulses has all that the state has.
func TestBitsOfAnyState(t *testing.T) {
	r := rand.New(rand.NewPCG(93, 94))
	for range 500 {
		s := some(r)
		x := bits(t, s)
		now := cloned(s)
		now.Store = nil
		if !same(x.Now, now) || x.Beat != 0 || x.Carry != 0 || x.Sum != 0 {
			t.Fatalf("Bits of %v = %v", s, x)
		}
		for address, word := range s.Store {
			for b := range 24 {
				if x.Lines[address/16][address%16*24+b] != (bit(word, b) == 1) {
					t.Fatalf("Bits of %v = %v", s, x)
				}
			}
		}
	}
}

// P5.4: Words within a minor cycle.
func TestWordsWithin(t *testing.T) {
	b := bits(t, program(t))
	for many := range 49 {
		s, e := pulse.Words(beats(t, b, many))
		if many%24 == 0 && (e != api.OK || s.Clock != many/24) || many%24 != 0 && (e != api.ErrDown || !same(s, api.PuState{})) {
			t.Errorf("Words after %d = %v, %d", many, s, e)
		}
	}
}

// wordAt returns the first beats of a word, as they are in a line.
func wordAt(b api.PuBits, address, many int) int {
	word := 0
	for i := range many {
		if b.Lines[address/16][address%16*24+i] {
			word |= 1 << i
		}
	}
	return word
}

// P5.5: the adder, beat by beat: the bits so far are those of the result, and the carry is what is left.
func TestAdder(t *testing.T) {
	r := rand.New(rand.NewPCG(95, 96))
	for range 200 {
		x, y := someWord(r), someWord(r)
		for _, what := range []int{api.OrAdd, api.OrSub} {
			s := program(t)
			s.Store[2], s.Clock, s.Phase, s.Order, s.Operand = x, 2, api.PuTo, op(what, 1, 2, 3), y
			b := bits(t, s)
			for many := range 24 {
				part := 1 << many
				result, carry := x%part+y%part, 0
				if what == api.OrSub {
					result = x%part - y%part + part
				}
				if many > 0 {
					carry = result / part
				}
				if c := beats(t, b, many); c.Carry != carry || wordAt(c, 2, many) != result%part || wordAt(c, 2, 24)/part != x/part || c.Sum != 0 {
					t.Fatalf("%d of %d and %d after %d beats: %v", what, x, y, many, c)
				}
			}
			if c := beats(t, b, 24); c.Carry != 0 || c.Beat != 0 || c.Now.Done != s.Done+1 {
				t.Fatalf("%d of %d and %d: %v", what, x, y, c)
			}
		}
	}
}

// P5.5: the multiplier has one bit ready in the beat 11, and one in the beat 23; Count changes at the end.
func TestMultiplierInBeats(t *testing.T) {
	s := program(t)
	s.Phase, s.Order, s.Operand, s.Other, s.Count = api.PuCount, op(api.OrMul, 1, 2, 3), 12582912, 3, 1
	b := bits(t, s)
	for many, want := range map[int]int{0: 0, 11: 0, 12: 3 << 22, 23: 3 << 22, 24: 3<<22 - 3<<23} {
		if c := beats(t, b, many); c.Now.Product != want || (c.Now.Count == 0) != (many == 24) || (c.Now.Phase == api.PuWrite) != (many == 24) {
			t.Errorf("after %d beats: %v", many, c)
		}
	}
}

// P5.5: if the time is over, Why changes and nothing else, also within a minor cycle.
func TestLateBeats(t *testing.T) {
	b := bits(t, program(t))
	b.Now.Clock, b.Beat, b.Carry, b.Sum = 1000000000, 23, 1, 99
	want := clonedPulses(b)
	want.Now.Why = api.OrLate
	for _, many := range []int{1, 2, 100} {
		if c := beats(t, b, many); !samePulses(c, want) {
			t.Errorf("after %d beats: %v", many, c)
		}
	}
	// A run that has ended stays so within a minor cycle.
	b.Now.Clock, b.Now.Why = 0, api.OrFull
	if c := beats(t, b, 100); !samePulses(c, b) {
		t.Errorf("%v becomes %v", b, c)
	}
}

// P5.5: the run ends after the last beat; until then the word is taken in.
func TestEndInBeats(t *testing.T) {
	s := begin(t, []int{op(api.OrHalt, 127, 127, 127)}, nil)
	b := bits(t, s)
	c := beats(t, b, 23)
	if c.Sum != op(api.OrHalt, 127, 127, 127) || c.Now.Why != api.OrGoing || c.Beat != 23 || c.Now.Order != 0 {
		t.Errorf("after 23 beats: %v", c)
	}
	want := clonedPulses(b)
	want.Now.Why = api.OrHalted
	for _, many := range []int{24, 25, 60000} {
		if c := beats(t, b, many); !samePulses(c, want) {
			t.Errorf("after %d beats: %v", many, c)
		}
	}
}

// P5.5: what has been taken in is the word, whatever the pulses were in the beats before.
func TestSumIsTheWord(t *testing.T) {
	b := bits(t, begin(t, []int{op(api.OrMove, 1, 2, 3)}, nil))
	b.Beat, b.Sum = 23, op(3, 7, 8, 9)
	if c := beats(t, b, 1); c.Now.Order != op(3, 7, 8, 9) || c.Now.Phase != api.PuFrom || c.Sum != 0 || c.Beat != 0 {
		t.Errorf("%v", c)
	}
	// If its word does not come by, what has been taken in is lost.
	b.Now.Clock, b.Carry = 1, 1
	if c := beats(t, b, 1); c.Now.Order != 0 || c.Now.Phase != api.PuFetch || c.Sum != 0 || c.Carry != 0 || c.Now.Clock != 2 {
		t.Errorf("%v", c)
	}
}
