package knight_test

import (
	"fmt"
	"math"
	"slices"
	"testing"

	"bibelot/api"
	"bibelot/knight"
)

// isTour follows the definition.
func isTour(r, c int, list []int) bool {
	sorted := slices.Sorted(slices.Values(list))
	if len(list) != r*c || len(slices.Compact(sorted)) != r*c || sorted[0] != 0 || sorted[r*c-1] != r*c-1 {
		return false
	}
	for i, square := range list[1:] {
		if !isMove(r, c, list[i], square) {
			return false
		}
	}
	return true
}

func isClosed(r, c int, tour []int) bool {
	return isMove(r, c, tour[0], tour[len(tour)-1])
}

// tours tells whether a board has a closed tour and whether it has a tour, by the sets of squares through which ways lead from square 0 to each square, and from any square to each.
func tours(r, c int) (closed, open bool) {
	number := r * c
	moves := words(r, c)
	full := 1<<number - 1
	fromFirst, fromAny := make([]uint32, 1<<number), make([]uint32, 1<<number) // the squares where ways through all of the set end
	fromFirst[1] = 1
	for square := range number {
		fromAny[1<<square] = 1 << square
	}
	for set := 1; set <= full; set++ {
		for square := range number {
			rest := set &^ (1 << square)
			if rest == 0 || rest == set {
				continue
			}
			if int(fromFirst[rest])&moves[square] != 0 {
				fromFirst[set] |= 1 << square
			}
			if int(fromAny[rest])&moves[square] != 0 {
				fromAny[set] |= 1 << square
			}
		}
	}
	return int(fromFirst[full])&moves[0] != 0, fromAny[full] != 0
}

// P6.6.
func schwenk(r, c int) bool {
	r, c = min(r, c), max(r, c)
	return !(r%2 == 1 && c%2 == 1 || r == 1 || r == 2 || r == 4 || r == 3 && (c == 4 || c == 6 || c == 8))
}

// P6.7.
func cull(r, c int) bool {
	r, c = min(r, c), max(r, c)
	return r == 1 && c == 1 || r == 3 && (c == 4 || c == 7 || c == 8) || r == 4 && c >= 5 || r >= 5
}

func checkTours(t *testing.T, r, c int, wantClosed, wantOpen bool) {
	t.Helper()
	tour, is, e := knight.Closed(r, c)
	if is != wantClosed || is && (!isTour(r, c, tour) || !isClosed(r, c, tour)) || !is && len(tour) > 0 || e != api.OK {
		t.Errorf("Closed(%d, %d): %v, %t, %d", r, c, tour, is, e)
	}
	tour, is, e = knight.Open(r, c)
	if is != wantOpen || is && !isTour(r, c, tour) || !is && len(tour) > 0 || e != api.OK {
		t.Errorf("Open(%d, %d): %v, %t, %d", r, c, tour, is, e)
	}
}

func TestToursTried(t *testing.T) {
	for _, x := range boards() {
		if r, c := x[0], x[1]; r*c <= 20 {
			closed, open := tours(r, c)
			checkTours(t, r, c, closed, open)
		}
	}
}

func TestToursKnown(t *testing.T) {
	for _, x := range boards() {
		checkTours(t, x[0], x[1], schwenk(x[0], x[1]), cull(x[0], x[1]))
	}
	for _, x := range []struct {
		r, c         int
		closed, open bool
	}{{1, 1, false, true}, {1, 2, false, false}, {3, 3, false, false}, {3, 4, false, true}, {4, 3, false, true}, {4, 4, false, false}, {5, 5, false, true}, {5, 6, true, true}, {6, 6, true, true}, {4, 8, false, true}, {3, 8, false, true}, {3, 6, false, false}} {
		checkTours(t, x.r, x.c, x.closed, x.open)
	}
}

// P6.6: with a tight set there is no closed tour.
func TestToursTight(t *testing.T) {
	for _, x := range boards() {
		_, closed, _ := knight.Closed(x[0], x[1])
		if _, tight, _ := knight.Tight(x[0], x[1]); tight && closed {
			t.Errorf("%v has a tight set and a closed tour", x)
		}
	}
}

// changed are lists that come of a tour by small changes.
func changed(tour []int) [][]int {
	number := len(tour)
	lists := [][]int{nil, {}, tour[:number-1], tour[1:], append(slices.Clone(tour), tour[0]), append(slices.Clone(tour), -1), append(slices.Clone(tour), number)}
	for i := range tour {
		for _, square := range []int{-1, number, math.MaxInt, math.MinInt, tour[(i+1)%number], tour[(i+2)%number], tour[i] + 64, tour[i] + 1<<32} {
			list := slices.Clone(tour)
			list[i] = square
			lists = append(lists, list)
		}
		list := slices.Clone(tour)
		list[0], list[i] = list[i], list[0]
		lists = append(lists, list, append(slices.Clone(tour[i:]), tour[:i]...))
	}
	backwards := slices.Clone(tour)
	slices.Reverse(backwards)
	return append(lists, backwards)
}

func TestIsTour(t *testing.T) {
	for _, x := range boards() {
		r, c := x[0], x[1]
		closed, _, _ := knight.Closed(r, c)
		open, _, _ := knight.Open(r, c)
		var natural []int
		for square := range r * c {
			natural = append(natural, square)
		}
		for _, list := range [][]int{closed, open, natural} {
			lists := [][]int{list}
			if len(list) > 0 {
				lists = append(lists, changed(list)...)
			}
			for _, list := range lists {
				checkIsTour(t, r, c, list)
			}
		}
	}
	for _, x := range []struct {
		r, c   int
		list   []int
		closed bool
		want   api.Errno
	}{
		{1, 1, []int{0}, false, api.OK}, {1, 1, nil, false, api.ErrTour}, {1, 1, []int{0, 0}, false, api.ErrTour}, {1, 1, []int{1}, false, api.ErrTour}, {1, 2, []int{0, 1}, false, api.ErrTour},
		{3, 3, []int{0, 5, 6, 1, 8, 3, 2, 7}, false, api.ErrTour}, {3, 3, []int{0, 5, 6, 1, 8, 3, 2, 7, 4}, false, api.ErrTour},
		{3, 4, []int{0, 9, 2, 4, 11, 5, 3, 10, 1, 8, 6, 7}, false, api.ErrTour}, {3, 4, []int{0, 9, 2, 4, 11, 5, 3, 10, 1, 8, 6, 0}, false, api.ErrTour},
	} {
		if closed, e := knight.IsTour(x.r, x.c, x.list); closed != x.closed || e != x.want {
			t.Errorf("IsTour of %v: %t, %d", x, closed, e)
		}
	}
}

func checkIsTour(t *testing.T, r, c int, list []int) {
	t.Helper()
	given := slices.Clone(list)
	want, wantClosed := api.ErrTour, false
	if isTour(r, c, list) {
		want, wantClosed = api.OK, isClosed(r, c, list)
	}
	if closed, e := knight.IsTour(r, c, list); closed != wantClosed || e != want {
		t.Errorf("IsTour(%d, %d) of %v: %t, %d", r, c, list, closed, e)
	}
	turned, e := knight.Turn(r, c, list)
	if !wantClosed && !refused(api.ErrTour, turned, e) || wantClosed && (!isTurned(r, c, list, turned) || e != api.OK) {
		t.Errorf("Turn(%d, %d) of %v: %v, %d", r, c, list, turned, e)
	}
	if !slices.Equal(list, given) {
		t.Errorf("%v became %v", given, list)
	}
}

// isTurned follows what Turn is to return: the same moves, from square 0 on to its lesser neighbour.
func isTurned(r, c int, tour, turned []int) bool {
	if !isTour(r, c, turned) || !isClosed(r, c, turned) || turned[0] != 0 || turned[1] > turned[len(turned)-1] {
		return false
	}
	return fmt.Sprint(edges(tour)) == fmt.Sprint(edges(turned))
}

// edges are the pairs of neighbours of a closed tour, in order.
func edges(tour []int) [][2]int {
	var list [][2]int
	for i, square := range tour {
		next := tour[(i+1)%len(tour)]
		list = append(list, [2]int{min(square, next), max(square, next)})
	}
	slices.SortFunc(list, func(a, b [2]int) int { return slices.Compare(a[:], b[:]) })
	return list
}

// others are closed tours that come of one by a reflection, or by going through a part of it the other way round.
func others(r, c int, tour []int) [][]int {
	var lists [][]int
	for _, mirrored := range []func(i, k int) (int, int){
		func(i, k int) (int, int) { return r - 1 - i, k },
		func(i, k int) (int, int) { return i, c - 1 - k },
		func(i, k int) (int, int) { return r - 1 - i, c - 1 - k },
	} {
		var list []int
		for _, square := range tour {
			i, k := mirrored(square/c, square%c)
			list = append(list, i*c+k)
		}
		lists = append(lists, list)
	}
	for i := range tour {
		for j := i + 2; j < len(tour); j++ {
			if isMove(r, c, tour[i], tour[j]) && isMove(r, c, tour[i+1], tour[(j+1)%len(tour)]) {
				list := slices.Clone(tour)
				slices.Reverse(list[i+1 : j+1])
				lists = append(lists, list)
			}
		}
	}
	return lists
}

func TestTurn(t *testing.T) {
	for _, x := range [][2]int{{5, 6}, {6, 5}, {6, 6}} {
		r, c := x[0], x[1]
		tour, is, _ := knight.Closed(r, c)
		if !is {
			t.Errorf("%v has no closed tour", x)
			continue
		}
		for _, other := range append(others(r, c, tour), tour) {
			checkTurns(t, r, c, other)
			for _, next := range others(r, c, other) {
				checkTurns(t, r, c, next)
			}
		}
	}
	for _, x := range boards() {
		if tour, is, _ := knight.Open(x[0], x[1]); is && !isClosed(x[0], x[1], tour) {
			if results := all(knight.Turn(x[0], x[1], tour)); !refused(api.ErrTour, results...) {
				t.Errorf("Turn of %v: %v", tour, results)
			}
		}
	}
}

// checkTurns turns a closed tour, wherever it begins and which way it goes.
func checkTurns(t *testing.T, r, c int, tour []int) {
	t.Helper()
	first, e := knight.Turn(r, c, tour)
	if !isTurned(r, c, tour, first) || e != api.OK {
		t.Errorf("Turn of %v: %v, %d", tour, first, e)
	}
	list := slices.Clone(tour)
	for range tour {
		list = append(list[1:], list[0])
		for range 2 {
			slices.Reverse(list)
			if turned, e := knight.Turn(r, c, list); !slices.Equal(turned, first) || e != api.OK {
				t.Errorf("Turn of %v: %v, %d, want %v", list, turned, e, first)
			}
		}
	}
	turned, _ := knight.Turn(r, c, first)
	turned[0] = 99
	if first[0] != 0 {
		t.Error("Turn kept its argument")
	}
}
