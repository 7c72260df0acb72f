package knight_test

import (
	"math/bits"
	"testing"

	"bibelot/api"
	"bibelot/knight"
)

func size(set int) int {
	return bits.OnesCount(uint(set))
}

// isQuiet follows the definition.
func isQuiet(set int, moves []int) bool {
	for square, around := range moves {
		if set>>square&1 == 1 && set&around != 0 {
			return false
		}
	}
	return true
}

// mostQuiet tries each square of a set with and without a knight.
func mostQuiet(left int, moves []int) int {
	if left == 0 {
		return 0
	}
	square := bits.TrailingZeros(uint(left))
	left &^= 1 << square
	with := 1 + mostQuiet(left&^moves[square], moves)
	if left&moves[square] == 0 {
		return with
	}
	return max(with, mostQuiet(left, moves))
}

// mostPairs tries each square of a set in no pair and in one with each other one.
func mostPairs(left int, moves []int) int {
	if left == 0 {
		return 0
	}
	square := bits.TrailingZeros(uint(left))
	left &^= 1 << square
	most := mostPairs(left, moves)
	for other := range moves {
		if left&moves[square]>>other&1 == 1 {
			most = max(most, 1+mostPairs(left&^(1<<other), moves))
		}
	}
	return most
}

func isPairing(r, c int, pairs [][2]int) bool {
	seen := map[int]bool{}
	for _, pair := range pairs {
		if !isMove(r, c, pair[0], pair[1]) || seen[pair[0]] || seen[pair[1]] {
			return false
		}
		seen[pair[0]], seen[pair[1]] = true, true
	}
	return true
}

func TestQuiet(t *testing.T) {
	for _, x := range boards() {
		r, c := x[0], x[1]
		moves := words(r, c)
		set, number, e := knight.Quiet(r, c)
		if set < 0 || set >= 1<<(r*c) || !isQuiet(set, moves) || size(set) != number || e != api.OK {
			t.Errorf("Quiet of %v: %d, %d, %d", x, set, number, e)
		}
		if is, e := knight.IsQuiet(r, c, set); !is || e != api.OK {
			t.Errorf("IsQuiet of %v, %d: %t, %d", x, set, is, e)
		}
		if r*c <= 24 {
			if want := mostQuiet(1<<(r*c)-1, moves); number != want {
				t.Errorf("Quiet of %v: %d, want %d", x, number, want)
			}
		}
		pairs, e := knight.Pairing(r, c)
		if !isPairing(r, c, pairs) || e != api.OK {
			t.Errorf("Pairing of %v: %v, %d", x, pairs, e)
		}
		if r*c <= 16 {
			if want := mostPairs(1<<(r*c)-1, moves); len(pairs) != want {
				t.Errorf("Pairing of %v: %v, want %d", x, pairs, want)
			}
		}
	}
}

// P6.8: as no quiet knights and no pairing can add up to more than all squares, both are as many as possible if they do.
func TestKonig(t *testing.T) {
	for _, x := range boards() {
		r, c := x[0], x[1]
		_, number, _ := knight.Quiet(r, c)
		pairs, _ := knight.Pairing(r, c)
		if number+len(pairs) != r*c || r >= 3 && c >= 3 && number != (r*c+1)/2 {
			t.Errorf("%v: %d quiet knights, %d pairs", x, number, len(pairs))
		}
	}
	for _, x := range [][3]int{{1, 1, 1}, {1, 8, 8}, {8, 1, 8}, {2, 2, 4}, {2, 3, 4}, {2, 4, 4}, {2, 5, 6}, {2, 6, 8}, {2, 7, 8}, {2, 8, 8}, {3, 3, 5}, {3, 4, 6}, {5, 7, 18}, {6, 6, 18}} {
		if _, number, e := knight.Quiet(x[0], x[1]); number != x[2] || e != api.OK {
			t.Errorf("Quiet of %v: %d, %d", x, number, e)
		}
	}
}

func TestIsQuiet(t *testing.T) {
	next := numbers(8)
	for _, x := range boards() {
		r, c := x[0], x[1]
		moves := words(r, c)
		check := func(set int) {
			if is, e := knight.IsQuiet(r, c, set); is != isQuiet(set, moves) || e != api.OK {
				t.Errorf("IsQuiet of %v, %d: %t, %d", x, set, is, e)
			}
		}
		if r*c <= 12 {
			for set := range 1 << (r * c) {
				check(set)
			}
			continue
		}
		full := 1<<(r*c) - 1
		for _, set := range []int{0, full, side(r, c, 0), side(r, c, 1)} {
			check(set)
			for square := range r * c {
				check(set ^ 1<<square)
			}
		}
		for range 500 {
			few := next(full+1) & next(full+1)
			check(few)
			check(few & next(full+1) & next(full+1))
		}
	}
	for set, want := range map[int]bool{0: true, 1: true, 33: false, 17: true, 341: true, 170: true, 511: false, 129: false} {
		if is, e := knight.IsQuiet(3, 3, set); is != want || e != api.OK {
			t.Errorf("IsQuiet of %d: %t, %d", set, is, e)
		}
	}
}

// canGuard tells whether that number of guards can be put on squares from one on so that the open ones are guarded.
func canGuard(from, number, open int, moves []int) bool {
	if open == 0 {
		return true
	}
	if number == 0 {
		return false
	}
	for square := from; square < len(moves); square++ {
		if canGuard(square+1, number-1, open&^(moves[square]|1<<square), moves) {
			return true
		}
	}
	return false
}

func TestGuards(t *testing.T) {
	for _, x := range boards() {
		r, c := x[0], x[1]
		moves := words(r, c)
		set, number, e := knight.Guards(r, c)
		if r*c > 20 {
			if !refused(api.ErrArg, set, number, e) {
				t.Errorf("Guards of %v: %d, %d, %d", x, set, number, e)
			}
			continue
		}
		guarded := set
		for square, around := range moves {
			if set>>square&1 == 1 {
				guarded |= around
			}
		}
		full := 1<<(r*c) - 1
		if set < 0 || guarded != full || size(set) != number || e != api.OK {
			t.Errorf("Guards of %v: %d, %d, %d", x, set, number, e)
		}
		if canGuard(0, number-1, full, moves) {
			t.Errorf("Guards of %v: %d, but fewer are enough", x, number)
		}
	}
	for _, x := range [][3]int{{1, 1, 1}, {1, 8, 8}, {2, 2, 4}, {2, 3, 4}, {2, 8, 8}, {3, 3, 4}, {3, 4, 4}, {4, 4, 4}, {4, 5, 4}, {5, 4, 4}} {
		if _, number, e := knight.Guards(x[0], x[1]); number != x[2] || e != api.OK {
			t.Errorf("Guards of %v: %d, %d", x, number, e)
		}
	}
}
