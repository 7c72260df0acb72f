package knight

import (
	"slices"

	"bibelot/api"
)

// IsTour returns ErrTour if the list is not a tour, otherwise whether it is closed.
func IsTour(r, c int, tour []int) (closed bool, e api.Errno) {
	b, e := boardOf(r, c)
	if e != api.OK {
		return false, e
	}
	if !b.isTour(tour) {
		return false, api.ErrTour
	}
	return b.isClosed(tour), api.OK
}

func (b *board) isTour(list []int) bool {
	var visited set
	for i, square := range list {
		if !b.has(square) || visited.has(square) || i > 0 && !b.moves[list[i-1]].has(square) {
			return false
		}
		visited |= setOf(square)
	}
	return visited == b.all()
}

func (b *board) isClosed(tour []int) bool {
	return b.moves[tour[0]].has(tour[len(tour)-1])
}

// Closed returns a closed tour, if there is one.
func Closed(r, c int) ([]int, bool, api.Errno) {
	b, e := boardOf(r, c)
	if e != api.OK {
		return nil, false, e
	}
	// It passes through all squares, so it may begin with any.
	tour := b.tour(setOf(0), func(first int) set {
		return b.moves[first]
	})
	return tour, tour != nil, api.OK
}

// Open returns a tour, if there is one.
func Open(r, c int) ([]int, bool, api.Errno) {
	b, e := boardOf(r, c)
	if e != api.OK {
		return nil, false, e
	}
	tour := b.tour(b.all(), func(int) set {
		return b.all()
	})
	return tour, tour != nil, api.OK
}

// tour returns a tour that begins with one of the first squares and ends with one of those that the function names for that one, or nil if none exists.
func (b *board) tour(firsts set, lastsFor func(first int) set) []int {
	var tour []int
	// visit goes to a square, then to all that are left, and tells whether it could end with one of the last ones. The squares of the tour are listed on the way back.
	var visit func(at int, left, lasts set) bool
	visit = func(at int, left, lasts set) bool {
		lasts = b.ends(at, left, lasts)
		if lasts == 0 {
			return false
		}
		found := left == 0
	search:
		for onward := range maxMoves {
			for next := range (b.moves[at] & left).squares {
				if (b.moves[next]&left).size() == onward && visit(next, left&^setOf(next), lasts) {
					found = true
					break search
				}
			}
		}
		if found {
			tour = append(tour, at)
		}
		return found
	}
	for first := range firsts.squares {
		if visit(first, b.all()&^setOf(first), lastsFor(first)) {
			break
		}
	}
	slices.Reverse(tour)
	return tour
}

// ends is the set of those of the last squares with which a way may end that goes from a square to all that are left, as far as the moves of single squares tell.
func (b *board) ends(at int, left, lasts set) set {
	if left == 0 {
		return lasts & setOf(at)
	}
	for square := range left.squares {
		switch (b.moves[square] & (left | setOf(at))).size() {
		case 0: // it cannot be reached
			return 0
		case 1: // it cannot be left again
			lasts &= setOf(square)
		}
	}
	return lasts & left
}

// Turn returns the closed tour that begins with square 0 and goes on with the lesser one of its neighbours in the tour.
func Turn(r, c int, tour []int) ([]int, api.Errno) {
	b, e := boardOf(r, c)
	if e != api.OK {
		return nil, e
	}
	if !b.isTour(tour) || !b.isClosed(tour) {
		return nil, api.ErrTour
	}
	return turned(tour), api.OK
}

func turned(tour []int) []int {
	number := len(tour)
	start := slices.Index(tour, 0)
	step := 1
	if tour[(start+1)%number] > tour[(start+number-1)%number] {
		step = number - 1 // one back, around the tour
	}
	list := make([]int, number)
	for i := range list {
		list[i] = tour[(start+i*step)%number]
	}
	return list
}
