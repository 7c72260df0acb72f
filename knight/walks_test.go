package knight_test

import (
	"fmt"
	"math"
	"slices"
	"testing"

	"bibelot/api"
	"bibelot/knight"
)

const far = 1000 // more than any distance

// distances are those of all pairs of squares, or far, by the ways through one square after the other.
func distances(r, c int) [][]int {
	table := make([][]int, r*c)
	for from := range table {
		table[from] = slices.Repeat([]int{far}, r*c)
		for _, to := range legal(r, c, from) {
			table[from][to] = 1
		}
		table[from][from] = 0
	}
	for through := range table {
		for from := range table {
			for to := range table {
				table[from][to] = min(table[from][to], table[from][through]+table[through][to])
			}
		}
	}
	return table
}

func TestDistance(t *testing.T) {
	for _, x := range boards() {
		r, c := x[0], x[1]
		for from, row := range distances(r, c) {
			for to, want := range row {
				d, is, e := knight.Distance(r, c, from, to)
				if is != (want < far) || is && d != want || !is && d != 0 || e != api.OK {
					t.Errorf("Distance of %v from %d to %d: %d, %t, %d, want %d", x, from, to, d, is, e, want)
				}
				way, is, e := knight.Way(r, c, from, to)
				if is != (want < far) || is && !isWay(r, c, from, to, want, way) || !is && len(way) > 0 || e != api.OK {
					t.Errorf("Way of %v from %d to %d: %v, %t, %d", x, from, to, way, is, e)
				}
			}
		}
	}
}

func isWay(r, c, from, to, moves int, way []int) bool {
	if len(way) != moves+1 || way[0] != from || way[moves] != to {
		return false
	}
	for i := range moves {
		if !isMove(r, c, way[i], way[i+1]) {
			return false
		}
	}
	return true
}

func TestDistanceKnown(t *testing.T) {
	for _, x := range []struct {
		r, c, from, to, want int
		is                   bool
	}{
		{1, 1, 0, 0, 0, true}, {1, 2, 0, 1, 0, false}, {2, 8, 0, 6, 0, false}, {2, 8, 0, 10, 1, true}, {2, 8, 0, 14, 3, true}, {3, 3, 0, 2, 2, true}, {3, 3, 0, 8, 4, true},
		{3, 3, 0, 4, 0, false}, {3, 3, 4, 0, 0, false}, {3, 3, 4, 4, 0, true}, {6, 6, 0, 7, 4, true}, {6, 6, 14, 21, 2, true}, {4, 8, 0, 31, 4, true},
	} {
		if d, is, e := knight.Distance(x.r, x.c, x.from, x.to); d != x.want || is != x.is || e != api.OK {
			t.Errorf("Distance of %v: %d, %t, %d", x, d, is, e)
		}
	}
	if way, is, e := knight.Way(3, 3, 0, 2); fmt.Sprint(way) != "[0 7 2]" || !is || e != api.OK {
		t.Errorf("Way: %v, %t, %d", way, is, e)
	}
	if way, is, e := knight.Way(3, 3, 4, 4); fmt.Sprint(way) != "[4]" || !is || e != api.OK {
		t.Errorf("Way: %v, %t, %d", way, is, e)
	}
}

// P6.9: distances are a metric, and tell the colours.
func TestMetric(t *testing.T) {
	for _, x := range boards() {
		r, c := x[0], x[1]
		number := r * c
		table := make([][]int, number)
		for from := range number {
			for to := range number {
				d, is, _ := knight.Distance(r, c, from, to)
				if is && d%2 != (colour(c, from)+colour(c, to))%2 || is && (d == 0) != (from == to) {
					t.Errorf("Distance of %v from %d to %d: %d", x, from, to, d)
				}
				if !is {
					d = far
				}
				table[from] = append(table[from], d)
			}
		}
		for a := range number {
			for b := range number {
				for through := range number {
					if table[a][b] != table[b][a] || table[a][b] > table[a][through]+table[through][b] {
						t.Errorf("distances of %v: %d, %d through %d", x, a, b, through)
					}
				}
			}
		}
	}
}

// longer are the numbers of walks with one move more, by the moves from each square.
func longer(r, c int, ways []int64) []int64 {
	next := make([]int64, len(ways))
	for square, number := range ways {
		for _, to := range legal(r, c, square) {
			next[to] += number
		}
	}
	return next
}

func TestWalks(t *testing.T) {
	for _, x := range boards() {
		r, c := x[0], x[1]
		for from := 0; from < r*c; from += 1 + r*c/6 {
			ways := make([]int64, r*c)
			ways[from] = 1
			for steps := 0; steps <= 15; steps++ {
				for to, want := range ways {
					if number, e := knight.Walks(r, c, from, to, steps); number != want || e != api.OK {
						t.Errorf("Walks of %v from %d to %d, %d: %d, %d, want %d", x, from, to, steps, number, e, want)
					}
				}
				ways = longer(r, c, ways)
			}
		}
	}
}

// tried counts the walks by making all of them.
func tried(r, c, from, to, steps int) int64 {
	if steps == 0 {
		if from == to {
			return 1
		}
		return 0
	}
	var number int64
	for _, next := range legal(r, c, from) {
		number += tried(r, c, next, to, steps-1)
	}
	return number
}

func TestWalksTried(t *testing.T) {
	for _, x := range [][2]int{{1, 4}, {2, 5}, {3, 3}, {3, 4}, {4, 4}, {5, 4}, {5, 5}} {
		r, c := x[0], x[1]
		for from := range r * c {
			for steps := range 6 {
				to := (from*7 + steps*3) % (r * c)
				for _, to := range []int{to, from} {
					if number, e := knight.Walks(r, c, from, to, steps); number != tried(r, c, from, to, steps) || e != api.OK {
						t.Errorf("Walks of %v from %d to %d, %d: %d, %d", x, from, to, steps, number, e)
					}
				}
			}
		}
	}
}

func TestWalksKnown(t *testing.T) {
	for _, x := range []struct {
		r, c, from, to, steps int
		want                  int64
	}{
		{3, 3, 0, 0, 0, 1}, {3, 3, 0, 1, 0, 0}, {3, 3, 0, 0, 2, 2}, {3, 3, 0, 2, 2, 1}, {3, 3, 0, 5, 15, 1 + 1365 + 6435 + 455}, {3, 3, 4, 4, 0, 1}, {3, 3, 4, 4, 2, 0}, {1, 1, 0, 0, 15, 0}, {2, 3, 0, 5, 15, 1}, {2, 3, 0, 5, 14, 0},
	} {
		if number, e := knight.Walks(x.r, x.c, x.from, x.to, x.steps); number != x.want || e != api.OK {
			t.Errorf("Walks of %v: %d, %d", x, number, e)
		}
	}
	for _, steps := range []int{-1, 16, math.MaxInt, math.MinInt, 1 << 32} {
		if results := all(knight.Walks(3, 3, 0, 0, steps)); !refused(api.ErrArg, results...) {
			t.Errorf("Walks of %d: %v", steps, results)
		}
	}
}

func TestRides(t *testing.T) {
	for _, x := range boards() {
		r, c := x[0], x[1]
		for from, row := range distances(r, c) {
			for _, most := range []int{0, 1, 2, 3, 4, 5, 6, 7, 8, 9, 10, 39, 40} {
				var want []int
				for to, d := range row {
					if d <= most {
						want = append(want, to)
					}
				}
				if list, e := knight.Rides(r, c, from, most); !slices.Equal(list, want) || e != api.OK {
					t.Errorf("Rides of %v from %d, %d: %v, %d, want %v", x, from, most, list, e, want)
				}
			}
		}
	}
	for _, most := range []int{-1, 41, math.MaxInt, math.MinInt, 1 << 32} {
		if results := all(knight.Rides(3, 3, 0, most)); !refused(api.ErrArg, results...) {
			t.Errorf("Rides of %d: %v", most, results)
		}
	}
}
