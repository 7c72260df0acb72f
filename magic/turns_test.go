package magic_test

import (
	"math"
	"slices"
	"testing"

	"bibelot/api"
	"bibelot/magic"
)

func compare(a, b [][]int) int {
	for i := range a {
		if c := slices.Compare(a[i], b[i]); c != 0 {
			return c
		}
	}
	return 0
}

func equal(a, b [][]int) bool {
	return len(a) == len(b) && compare(a, b) == 0
}

// turnsOf are the eight turns, each by the place from which a number comes, rising and without repetitions.
func turnsOf(s [][]int) [][][]int {
	n := len(s)
	last := n - 1
	list := [][][]int{
		s,
		mapped(n, func(i, k int) int { return s[k][i] }),
		mapped(n, func(i, k int) int { return s[i][last-k] }),
		mapped(n, func(i, k int) int { return s[last-i][k] }),
		mapped(n, func(i, k int) int { return s[last-i][last-k] }),
		mapped(n, func(i, k int) int { return s[k][last-i] }),
		mapped(n, func(i, k int) int { return s[last-k][i] }),
		mapped(n, func(i, k int) int { return s[last-k][last-i] }),
	}
	slices.SortFunc(list, compare)
	return slices.CompactFunc(list, equal)
}

// checkTurns tests what is said of turns: all have the same turns, and so the same first one, which is one of them (P5.6).
func checkTurns(t *testing.T, s [][]int) {
	t.Helper()
	want := turnsOf(s)
	for _, turn := range want {
		if got, e := magic.Turns(turn); !slices.EqualFunc(got, want, equal) || e != api.OK {
			t.Errorf("Turns of %v: %v, %d, want %v", turn, got, e, want)
		}
		if got, e := magic.First(turn); !equal(got, want[0]) || e != api.OK {
			t.Errorf("First of %v: %v, %d, want %v", turn, got, e, want[0])
		}
	}
}

func TestTurns(t *testing.T) {
	next := numbers(1)
	extremes := []int{0, 1, -1, math.MaxInt, math.MinInt, 10, 9}
	for n := 1; n <= 8; n++ {
		checkTurns(t, natural(n))
		for range 50 {
			checkTurns(t, shuffled(n, next))
			checkTurns(t, mapped(n, func(i, k int) int { return extremes[next(7)] }))
			checkTurns(t, mapped(n, func(i, k int) int { return next(2) }))
		}
		checkTurns(t, mapped(n, func(i, k int) int { return 0 }))
		// Squares that some turns leave as they are.
		checkTurns(t, mapped(n, func(i, k int) int { return i }))
		checkTurns(t, mapped(n, func(i, k int) int { return i * k }))
		checkTurns(t, mapped(n, func(i, k int) int { return i + k }))
		checkTurns(t, mapped(n, func(i, k int) int { return (i - n/2) * (k - n/2) }))
		checkTurns(t, mapped(n, func(i, k int) int { return (2*i - n + 1) * (2*k - n + 1) }))
	}
	for x := range 1 << 9 { // all of order 3 with two numbers
		checkTurns(t, mapped(3, func(i, k int) int { return x >> (3*i + k) & 1 }))
	}
	for x := range 4 * 4 * 4 * 4 {
		checkTurns(t, mapped(2, func(i, k int) int { return x >> (4*i + 2*k) & 3 }))
	}
}

func TestTurnsKnown(t *testing.T) {
	turns, e := magic.Turns(loShu())
	want := [][][]int{
		{{2, 7, 6}, {9, 5, 1}, {4, 3, 8}}, {{2, 9, 4}, {7, 5, 3}, {6, 1, 8}}, {{4, 3, 8}, {9, 5, 1}, {2, 7, 6}}, {{4, 9, 2}, {3, 5, 7}, {8, 1, 6}},
		{{6, 1, 8}, {7, 5, 3}, {2, 9, 4}}, {{6, 7, 2}, {1, 5, 9}, {8, 3, 4}}, {{8, 1, 6}, {3, 5, 7}, {4, 9, 2}}, {{8, 3, 4}, {1, 5, 9}, {6, 7, 2}},
	}
	if !slices.EqualFunc(turns, want, equal) || e != api.OK {
		t.Errorf("Turns: %v, %d", turns, e)
	}
	if first, e := magic.First([][]int{{8, 3, 4}, {1, 5, 9}, {6, 7, 2}}); !equal(first, loShu()) || e != api.OK {
		t.Errorf("First: %v, %d", first, e)
	}
	if turns, e := magic.Turns([][]int{{-5}}); len(turns) != 1 || !equal(turns[0], [][]int{{-5}}) || e != api.OK {
		t.Errorf("Turns: %v, %d", turns, e)
	}
}

// P5.6: a normal square of order n >= 2 has eight turns, which are of the same kinds, magic ones and others.
func TestTurnsKinds(t *testing.T) {
	next := numbers(2)
	for n := 1; n <= 8; n++ {
		for _, s := range normalSquares(n, next) {
			turns, e := magic.Turns(s)
			if len(turns) != 8 && n >= 2 || e != api.OK {
				t.Errorf("Turns of %v: %d, %d", s, len(turns), e)
			}
			for _, turn := range turns {
				checkKinds(t, turn, kindsOf(s))
			}
		}
	}
}
