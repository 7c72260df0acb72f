package magic

import (
	"slices"

	"bibelot/api"
)

// Turns returns all different turns of the square, in the order of lists.
func Turns(s [][]int) ([][][]int, api.Errno) {
	squares, e := squaresOf(s)
	if e != api.OK {
		return nil, e
	}
	var turns [][][]int
	for _, turn := range squares[0].turns() {
		turns = append(turns, turn.list())
	}
	return turns, api.OK
}

// First returns the least turn of the square.
func First(s [][]int) ([][]int, api.Errno) {
	squares, e := squaresOf(s)
	if e != api.OK {
		return nil, e
	}
	return squares[0].turns()[0].list(), api.OK
}

// turns returns all different turns, rising. A quarter of a turn and a reflection, one after the other, make all eight.
func (s square) turns() []square {
	found := []square{s}
	seen := map[grid]bool{s.grid: true}
	for i := 0; i < len(found); i++ {
		for _, turn := range []func() square{found[i].quarter, found[i].mirrored} {
			if next := turn(); !seen[next.grid] {
				seen[next.grid] = true
				found = append(found, next)
			}
		}
	}
	slices.SortFunc(found, square.compare)
	return found
}

// compare is that of lists, for squares of one order.
func (s square) compare(t square) int {
	for i, row := range s.grid {
		if c := slices.Compare(row[:], t.grid[i][:]); c != 0 {
			return c
		}
	}
	return 0
}

func (s square) quarter() square {
	return made(s.n, func(row, column int) int {
		return s.grid[column][s.n-1-row]
	})
}

func (s square) mirrored() square {
	return made(s.n, func(row, column int) int {
		return s.grid[row][s.n-1-column]
	})
}
