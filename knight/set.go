package knight

import (
	"math/bits"
	"slices"
)

// set is a set of squares: the number whose bits they are.
type set uint64

func setOf(squares ...int) set {
	var s set
	for _, square := range squares {
		s |= 1 << square
	}
	return s
}

func (s set) has(square int) bool {
	return s>>square&1 == 1
}

func (s set) size() int {
	return bits.OnesCount64(uint64(s))
}

func (s set) least() int {
	return bits.TrailingZeros64(uint64(s))
}

// squares yields the squares of the set, rising.
func (s set) squares(yield func(int) bool) {
	for ; s != 0; s &= s - 1 {
		if !yield(s.least()) {
			return
		}
	}
}

func (s set) list() []int {
	return slices.Collect(s.squares)
}

// where is the set of those squares for which the answer is yes. They are asked for one after the other, rising.
func (s set) where(ask func(square int) bool) set {
	var yes set
	for square := range s.squares {
		if ask(square) {
			yes |= setOf(square)
		}
	}
	return yes
}

// parts yields the sets within the set, rising, but for the empty one.
func (s set) parts(yield func(set) bool) {
	// Taking the set away carries through all places outside of it, so it counts up in those inside, and back to 0 at the end.
	for part := -s & s; part != 0 && yield(part); {
		part = (part - s) & s
	}
}

// union is the set of what some squares have together.
func union(sets *[maxSquares]set, squares set) set {
	var all set
	for square := range squares.squares {
		all |= sets[square]
	}
	return all
}
