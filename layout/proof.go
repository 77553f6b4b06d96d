package layout

import (
	"cmp"
	"slices"

	"quicksilver/api"
)

// errorOfProof returns the error of a proof.
func (p *plan) errorOfProof(proof []api.LaPair) api.Errno {
	if len(proof) > api.MaxLaPairs {
		return api.ErrLong
	}
	for _, pair := range proof {
		if e := p.errorOfPair(pair); e != api.OK {
			return e
		}
	}
	for i, pair := range proof {
		crosses := func(other api.LaPair) bool { return cross(pair, other) }
		if slices.ContainsFunc(proof[:i], crosses) {
			return api.LaErrCross
		}
	}
	return api.OK
}

// errorOfPair returns the error of a pair alone.
func (p *plan) errorOfPair(pair api.LaPair) api.Errno {
	if !within(0, len(p.events)-1, pair.Path) {
		return api.ErrNone
	}
	events := p.events[pair.Path]
	last := len(events) - 1
	if !within(0, last, pair.From) || !within(0, last, pair.To) {
		return api.ErrNone
	}
	if pair.From >= pair.To || events[pair.From] != events[pair.To] {
		return api.ErrArg
	}
	return api.OK
}

// cross says whether two pairs cannot be in one proof, as they cross each other or are equal.
func cross(a, b api.LaPair) bool {
	if a == b || a.Path != b.Path {
		return a == b
	}
	aInB := b.From <= a.From && a.To <= b.To
	bInA := a.From <= b.From && b.To <= a.To
	return !aInB && !bInA && a.To > b.From && b.To > a.From
}

// compare compares two pairs by their order in the proof of a task: a pair comes before those that lie in it.
func compare(a, b api.LaPair) int {
	return cmp.Or(
		cmp.Compare(a.Path, b.Path),
		cmp.Compare(a.From, b.From),
		cmp.Compare(b.To, a.To),
	)
}

// bound returns the bound of a proof.
func (p *plan) bound(proof []api.LaPair) int {
	rest := slices.Clone(proof)
	slices.SortFunc(rest, compare)
	all := 0
	for i, path := range p.Paths {
		count := 0
		for count < len(rest) && rest[count].Path == i {
			count++
		}
		// The pair of the first and the last event, if it is there, is the only one that is met.
		value, _ := between(0, len(p.events[i])-1, rest[:count])
		all += value * path.Count
		rest = rest[count:]
	}
	return all
}

// between returns the value of what is between two events, by sorted pairs from the first one that begins there on, and the pairs behind.
func between(from, to int, pairs []api.LaPair) (value int, behind []api.LaPair) {
	for at := from; at < to; {
		if len(pairs) == 0 || pairs[0].From != at {
			value++
			at++
			continue
		}
		end := pairs[0].To
		inside, rest := between(at, end, pairs[1:])
		value += roundUp(inside)
		at, pairs = end, rest
	}
	return value, pairs
}

// roundUp returns the least multiple of OrPlaces that is not below a number.
func roundUp(n int) int { return n + placeOf(-n) }

// choice is a greatest value, and the event with which the last pair begins of which it comes (nothing: it comes of a step).
type choice struct{ value, from int }

// chooser returns the greatest value that pairs between two events can give, if those that end with the last event begin with a given event or later.
type chooser func(x, first, y int) choice

// choose returns the chooser of some events. With x as the first event it chooses D of x and y; with x + 1, what is rounded up to R of x and y.
func choose(events []int) chooser {
	known := map[[3]int]choice{}
	var greatest chooser
	greatest = func(x, first, y int) choice {
		if x == y {
			return choice{from: nothing}
		}
		key := [3]int{x, first, y}
		if c, isKnown := known[key]; isKnown {
			return c
		}
		best := choice{value: greatest(x, x, y-1).value + 1, from: nothing}
		for z := first; z < y; z++ {
			if events[z] != events[y] {
				continue
			}
			value := greatest(x, x, z).value + roundUp(greatest(z, z+1, y).value)
			if value > best.value {
				best = choice{value: value, from: z}
			}
		}
		known[key] = best
		return best
	}
	return greatest
}

// proof returns the proof of the task.
func (p *plan) proof() []api.LaPair {
	var proof []api.LaPair
	for i, events := range p.events {
		greatest := choose(events)
		var collect func(x, first, y int)
		collect = func(x, first, y int) {
			if x == y {
				return
			}
			z := greatest(x, first, y).from
			if z == nothing {
				collect(x, x, y-1)
				return
			}
			// In the order of the list: what lies before the pair, the pair, and what lies within it.
			collect(x, x, z)
			proof = append(proof, api.LaPair{Path: i, From: z, To: y})
			collect(z, z+1, y)
		}
		collect(0, 0, len(events)-1)
	}
	return proof
}
