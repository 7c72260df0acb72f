package magic

import (
	"iter"
)

type place struct {
	row, column int
}

// along returns n places, step by step. What leaves the square of order n at one side comes back at the other one, so a step to the left is n - 1 steps to the right.
func along(n int, from, step place) []place {
	places := make([]place, n)
	for k := range places {
		places[k] = place{(from.row + k*step.row) % n, (from.column + k*step.column) % n}
	}
	return places
}

// lines yields the rows and the columns, then the two diagonals.
func lines(n int) iter.Seq[[]place] {
	return func(yield func([]place) bool) {
		for i := range n {
			if !yield(along(n, place{i, 0}, place{0, 1})) || !yield(along(n, place{0, i}, place{1, 0})) {
				return
			}
		}
		if yield(along(n, place{0, 0}, place{1, 1})) {
			yield(along(n, place{0, n - 1}, place{1, n - 1}))
		}
	}
}

// brokenDiagonals yields them, two for each place of the first row.
func brokenDiagonals(n int) iter.Seq[[]place] {
	return func(yield func([]place) bool) {
		for i := range n {
			if !yield(along(n, place{0, i}, place{1, 1})) || !yield(along(n, place{0, i}, place{1, n - 1})) {
				return
			}
		}
	}
}

// magicSum is that of each line of a magic square: all its numbers together are n times as much.
func magicSum(n int) int {
	return n * (n*n + 1) / 2
}

func (s square) haveMagicSum(lines iter.Seq[[]place]) bool {
	for places := range lines {
		if s.sum(places...) != magicSum(s.n) {
			return false
		}
	}
	return true
}

func (s square) sum(places ...place) int {
	sum := 0
	for _, p := range places {
		sum += s.at(p)
	}
	return sum
}

func (s *square) at(p place) int {
	return s.grid[p.row][p.column]
}
