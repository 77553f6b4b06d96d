package layout

import (
	"cmp"
	"iter"
	"slices"

	"quicksilver/api"
)

// good returns the good layout.
func (p *plan) good() []int {
	layout := p.laid()
	for {
		next := least(p.takes, slices.Collect(exchanged(layout))...)
		if slices.Equal(next, layout) {
			return layout
		}
		layout = next
	}
}

// laid returns the layout with which the good one begins.
func (p *plan) laid() []int {
	layout := slices.Repeat([]int{nothing}, p.items())
	for _, path := range p.byCount() {
		place := 0
		for item := range p.eventsOf(path) {
			if layout[item] == nothing {
				layout[item] = p.free(layout, place)
			}
			place = placeOf(layout[item] + 1)
		}
	}
	address := 0
	for item := range layout {
		if layout[item] != nothing {
			continue
		}
		for slices.Contains(layout, address) {
			address++
		}
		layout[item] = address
	}
	return layout
}

// byCount returns the paths, the one with the greatest Count first.
func (p *plan) byCount() []api.LaPath {
	paths := slices.Clone(p.Paths)
	slices.SortStableFunc(paths, func(a, b api.LaPath) int {
		return cmp.Compare(b.Count, a.Count)
	})
	return paths
}

// free returns the least address that is free at the first place, from one on, that has any.
func (p *plan) free(layout []int, from int) int {
	address := nothing
search:
	for steps := range api.OrPlaces {
		for line := range p.Lines {
			address = line*api.OrPlaces + placeOf(from+steps)
			if !slices.Contains(layout, address) {
				break search
			}
		}
	}
	return address
}

// exchanged yields a layout, and then all in which the addresses of two items are exchanged.
func exchanged(layout []int) iter.Seq[[]int] {
	return func(yield func([]int) bool) {
		if !yield(layout) {
			return
		}
		for i := range layout {
			for k := i + 1; k < len(layout); k++ {
				next := slices.Clone(layout)
				next[i], next[k] = next[k], next[i]
				if !yield(next) {
					return
				}
			}
		}
	}
}

// layouts yields, in order, the layouts among which the first of the best ones is.
func (p *plan) layouts() iter.Seq[[]int] {
	return func(yield func([]int) bool) {
		var extend func(layout []int) bool
		extend = func(layout []int) bool {
			if len(layout) == p.items() {
				return yield(slices.Clone(layout))
			}
			for address := range p.addresses() {
				if p.isFirst(layout, address) && !extend(append(layout, address)) {
					return false
				}
			}
			return true
		}
		// A layout takes the same if it is turned, and its lines are exchanged, until its first item is at 0.
		extend([]int{0})
	}
}

// isFirst says whether an address is the first free one at its place: an item at another one of this place takes the same.
func (p *plan) isFirst(layout []int, address int) bool {
	above := address - api.OrPlaces
	return !slices.Contains(layout, address) && (above < 0 || slices.Contains(layout, above))
}

// least returns the one of several that has the least value, of equal ones the first one. There is at least one.
func least[T any](value func(T) int, several ...T) T {
	first := several[0]
	lowest := value(first)
	for _, one := range several[1:] {
		if v := value(one); v < lowest {
			first, lowest = one, v
		}
	}
	return first
}
