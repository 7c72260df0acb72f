package knight

import (
	"iter"
	"slices"

	"bibelot/api"
)

const (
	maxSteps = 15 // of a walk
	maxRide  = 40
)

// levels yields the squares that can be reached from one of them, by the number of moves that they need: first that square, with none.
func (b *board) levels(from int) iter.Seq2[int, set] {
	return func(yield func(int, set) bool) {
		var reached set
		level := setOf(from)
		for moves := 0; level != 0 && yield(moves, level); moves++ {
			reached |= level
			level = b.around(level) &^ reached
		}
	}
}

// Distance returns the least number of moves from one square to another one, if any lead there.
func Distance(r, c, from, to int) (int, bool, api.Errno) {
	way, is, e := Way(r, c, from, to)
	if !is {
		return 0, false, e
	}
	return len(way) - 1, true, e
}

// Way returns the squares of a way with the least number of moves, if there is one.
func Way(r, c, from, to int) ([]int, bool, api.Errno) {
	b, e := boardOf(r, c, from, to)
	if e != api.OK {
		return nil, false, e
	}
	levels := map[int]set{}
	for moves, level := range b.levels(from) {
		levels[moves] = level
		if level.has(to) {
			return b.followBack(levels, moves, to), true, api.OK
		}
	}
	return nil, false, api.OK
}

// followBack returns a way to a square that needs so many moves.
func (b *board) followBack(levels map[int]set, moves, to int) []int {
	way := []int{to}
	for moves > 0 {
		moves--
		to = (levels[moves] & b.moves[to]).least()
		way = append(way, to)
	}
	slices.Reverse(way)
	return way
}

// Walks returns the number of ways of so many moves from one square to another one.
func Walks(r, c, from, to, steps int) (int64, api.Errno) {
	b, e := boardOf(r, c, from, to)
	if e != api.OK {
		return 0, e
	}
	if steps < 0 || steps > maxSteps {
		return 0, api.ErrArg
	}
	return b.walks(from, steps)[to], api.OK
}

// walks are the numbers of ways of so many moves to each square.
func (b *board) walks(from, steps int) [maxSquares]int64 {
	var ways [maxSquares]int64
	ways[from] = 1
	for range steps {
		var longer [maxSquares]int64
		for square := range b.all().squares {
			for before := range b.moves[square].squares {
				longer[square] += ways[before]
			}
		}
		ways = longer
	}
	return ways
}

// Rides returns the squares that can be reached by at most so many moves, rising.
func Rides(r, c, from, most int) ([]int, api.Errno) {
	b, e := boardOf(r, c, from)
	if e != api.OK {
		return nil, e
	}
	if most < 0 || most > maxRide {
		return nil, api.ErrArg
	}
	var reached set
	for moves, level := range b.levels(from) {
		if moves > most {
			break
		}
		reached |= level
	}
	return reached.list(), api.OK
}
