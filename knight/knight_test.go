package knight_test

import (
	"fmt"
	"math"
	"slices"
	"testing"

	"bibelot/api"
	"bibelot/knight"
)

// boards are all rows and columns of boards.
func boards() [][2]int {
	var list [][2]int
	for r := 1; r <= 8; r++ {
		for c := 1; c <= 8; c++ {
			if r*c <= 36 {
				list = append(list, [2]int{r, c})
			}
		}
	}
	return list
}

// noBoards are rows and columns that are not those of a board, also some whose product is in range.
func noBoards() [][2]int {
	return [][2]int{
		{0, 0}, {0, 1}, {1, 0}, {0, 8}, {-1, 1}, {1, -1}, {-1, -1}, {-5, -6}, {9, 1}, {1, 9}, {9, 4}, {4, 9}, {12, 3}, {36, 1}, {1, 36},
		{5, 8}, {8, 5}, {6, 7}, {7, 6}, {7, 7}, {8, 8}, {math.MaxInt, 1}, {1, math.MinInt}, {math.MaxInt, math.MaxInt}, {math.MinInt, math.MinInt}, {1 << 32, 1 << 32}, {1<<32 + 3, 4},
	}
}

// noSquares are numbers that are no squares of a board with so many.
func noSquares(number int) []int {
	return []int{-1, number, number + 1, 64, math.MaxInt, math.MinInt, 1 << 32}
}

// noSets are numbers that are no sets of squares of a board with so many.
func noSets(number int) []int {
	return []int{-1, 1 << number, 1<<number + 1, 1 << 40, math.MaxInt, math.MinInt}
}

// legal are the moves that the definition allows, rising.
func legal(r, c, square int) []int {
	var list []int
	for _, step := range [][2]int{{-2, -1}, {-2, 1}, {-1, -2}, {-1, 2}, {1, -2}, {1, 2}, {2, -1}, {2, 1}} {
		i, k := square/c+step[0], square%c+step[1]
		if i >= 0 && i < r && k >= 0 && k < c {
			list = append(list, i*c+k)
		}
	}
	slices.Sort(list)
	return list
}

func isMove(r, c, from, to int) bool {
	return slices.Contains(legal(r, c, from), to)
}

// words have the moves of each square as a set.
func words(r, c int) []int {
	list := make([]int, r*c)
	for square := range list {
		for _, to := range legal(r, c, square) {
			list[square] |= 1 << to
		}
	}
	return list
}

func colour(c, square int) int {
	return (square/c + square%c) % 2
}

// side is the set of the squares of a colour.
func side(r, c, which int) int {
	set := 0
	for square := range r * c {
		if colour(c, square) == which {
			set |= 1 << square
		}
	}
	return set
}

// numbers makes a source of numbers below a bound, always the same ones for a seed.
func numbers(seed uint64) func(below int) int {
	return func(below int) int {
		seed = seed*6364136223846793005 + 1442695040888963407
		return int(seed >> 20 % uint64(below))
	}
}

// refused tells whether a call returned that error and nothing else: the results, the error last.
func refused(want api.Errno, results ...any) bool {
	last := len(results) - 1
	for _, x := range results[:last] {
		if s := fmt.Sprint(x); s != "0" && s != "false" && s != "[]" {
			return false
		}
	}
	return results[last] == want
}

// all puts the results of a call into one list.
func all(results ...any) []any {
	return results
}

// calls are those of a board alone, with arguments that are right for any board.
func calls(r, c int) map[string][]any {
	return map[string][]any{
		"Moves": all(knight.Moves(r, c, 0)), "Distance": all(knight.Distance(r, c, 0, 0)), "Way": all(knight.Way(r, c, 0, 0)),
		"IsTour": all(knight.IsTour(r, c, []int{0})), "Closed": all(knight.Closed(r, c)), "Open": all(knight.Open(r, c)), "Turn": all(knight.Turn(r, c, []int{0})),
		"Tight": all(knight.Tight(r, c)), "IsTight": all(knight.IsTight(r, c, 0)),
		"Quiet": all(knight.Quiet(r, c)), "IsQuiet": all(knight.IsQuiet(r, c, 0)), "Pairing": all(knight.Pairing(r, c)), "Guards": all(knight.Guards(r, c)),
		"Walks": all(knight.Walks(r, c, 0, 0, 0)), "Rides": all(knight.Rides(r, c, 0, 0)),
	}
}

func TestCheck(t *testing.T) {
	good := boards()
	for r := -2; r <= 40; r++ {
		for c := -2; c <= 40; c++ {
			want := api.ErrArg
			if slices.Contains(good, [2]int{r, c}) {
				want = api.OK
			}
			if e := knight.Check(r, c); e != want {
				t.Errorf("Check(%d, %d): %d", r, c, e)
			}
		}
	}
	for _, x := range noBoards() {
		if e := knight.Check(x[0], x[1]); e != api.ErrArg {
			t.Errorf("Check%v: %d", x, e)
		}
	}
}

// The board comes first: lists that are no tours are then not looked at, and all that is wrong otherwise has the same error.
func TestNoBoard(t *testing.T) {
	for _, x := range noBoards() {
		for name, results := range calls(x[0], x[1]) {
			if !refused(api.ErrArg, results...) {
				t.Errorf("%s of %v: %v", name, x, results)
			}
		}
		for _, tour := range [][]int{nil, {-1}, {0, 1}} {
			if results := all(knight.IsTour(x[0], x[1], tour)); !refused(api.ErrArg, results...) {
				t.Errorf("IsTour of %v: %v", x, results)
			}
			if results := all(knight.Turn(x[0], x[1], tour)); !refused(api.ErrArg, results...) {
				t.Errorf("Turn of %v: %v", x, results)
			}
		}
	}
}

func TestNoSquare(t *testing.T) {
	for _, x := range boards() {
		r, c := x[0], x[1]
		for _, s := range noSquares(r * c) {
			for i, results := range [][]any{
				all(knight.Moves(r, c, s)), all(knight.Distance(r, c, s, 0)), all(knight.Distance(r, c, 0, s)), all(knight.Distance(r, c, s, s)),
				all(knight.Way(r, c, s, 0)), all(knight.Way(r, c, 0, s)), all(knight.Way(r, c, s, s)),
				all(knight.Walks(r, c, s, 0, 0)), all(knight.Walks(r, c, 0, s, 2)), all(knight.Walks(r, c, s, s, 0)),
				all(knight.Rides(r, c, s, 0)), all(knight.Rides(r, c, s, 40)),
			} {
				if !refused(api.ErrArg, results...) {
					t.Errorf("call %d of %v with square %d: %v", i, x, s, results)
				}
			}
		}
		for _, s := range noSets(r * c) {
			for i, results := range [][]any{all(knight.IsTight(r, c, s)), all(knight.IsQuiet(r, c, s))} {
				if !refused(api.ErrArg, results...) {
					t.Errorf("call %d of %v with set %d: %v", i, x, s, results)
				}
			}
		}
	}
}

func TestMoves(t *testing.T) {
	for _, x := range boards() {
		r, c := x[0], x[1]
		for square := range r * c {
			if list, e := knight.Moves(r, c, square); !slices.Equal(list, legal(r, c, square)) || e != api.OK {
				t.Errorf("Moves of %v from %d: %v, %d, want %v", x, square, list, e, legal(r, c, square))
			}
		}
	}
	for _, x := range []struct {
		r, c, square int
		want         string
	}{{3, 3, 4, "[]"}, {3, 3, 0, "[5 7]"}, {5, 5, 12, "[1 3 5 9 15 19 21 23]"}, {6, 6, 35, "[22 27]"}, {1, 8, 3, "[]"}, {2, 4, 0, "[6]"}, {4, 2, 0, "[5]"}} {
		if list, _ := knight.Moves(x.r, x.c, x.square); fmt.Sprint(list) != x.want {
			t.Errorf("Moves of %v: %v", x, list)
		}
	}
}

// The results of a call stay what they are whatever is done to those of another one, and every call gives the same.
func TestNewMemory(t *testing.T) {
	for _, x := range [][2]int{{5, 6}, {3, 4}, {1, 1}, {4, 5}} {
		before := fmt.Sprint(calls(x[0], x[1]))
		for _, results := range calls(x[0], x[1]) {
			switch list := results[0].(type) {
			case []int:
				for i := range list[:cap(list)] {
					list[:cap(list)][i] = -7
				}
			case [][2]int:
				clear(list[:cap(list)])
			}
		}
		if after := fmt.Sprint(calls(x[0], x[1])); after != before {
			t.Errorf("%v: %s, then %s", x, before, after)
		}
	}
}
