package formula

import (
	"iter"

	"quicksilver/api"
)

// pile is a pile of values: those below its height.
type pile[T any] struct {
	values [api.MaxFoDepth]T
	high   int
}

func (p *pile[T]) put(value T) {
	p.values[p.high] = value
	p.high++
}

func (p *pile[T]) take() T {
	p.high--
	return p.values[p.high]
}

// two takes the topmost two values; the second one is the topmost.
func (p *pile[T]) two() (first, second T) {
	second = p.take()
	first = p.take()
	return first, second
}

// kinds is, for each kind of nodes, how the value of a node is computed; that of an operation takes its two values from a pile.
type kinds[T any] map[int]func(n api.FoNode) T

// values computes nodes with a pile, and yields the index of each node, and its value, when it is on the pile.
func values[T any](code []api.FoNode, p *pile[T], by kinds[T]) iter.Seq2[int, T] {
	return func(yield func(int, T) bool) {
		for i, n := range code {
			value := by[n.Kind](n)
			p.put(value)
			if !yield(i, value) {
				return
			}
		}
	}
}

// last computes nodes with a pile, and returns the value of the last one.
func last[T any](code []api.FoNode, p *pile[T], by kinds[T]) T {
	for range values(code, p, by) {
		// All values but the last one are only for those behind them.
	}
	return p.take()
}
