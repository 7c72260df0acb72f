package peg_test

import (
	"fmt"
	"math"
	"slices"
	"testing"

	"bibelot/api"
	"bibelot/peg"
)

// pagoda tells whether weights are a pagoda, line by line.
func pagoda(b board, w []int) bool {
	for _, line := range b.lines {
		x, y, z := w[line[0]], w[line[1]], w[line[2]]
		if x+y < z || z+y < x {
			return false
		}
	}
	return true
}

func weight(w []int, p int) int {
	sum := 0
	for hole, x := range w {
		if has(p, hole) {
			sum += x
		}
	}
	return sum
}

func TestIsPagoda(t *testing.T) {
	for _, x := range []struct {
		board
		w    []int
		want bool
	}{
		{row(4), []int{1, 0, 1, 1}, true},
		{row(4), []int{1, 1, 2, 3}, true},
		{row(4), []int{1, 1, 3, 1}, false},
		{row(4), []int{0, 0, 0, 0}, true},
		{row(4), []int{-1, 1, 0, 1}, true},
		{row(4), []int{0, 0, 0, 1}, false}, // the jump 1, 2, 3
		{row(4), []int{1, 0, 0, 0}, false}, // the jump 2, 1, 0
		{row(3), []int{1000000, 0, 1000000}, true},
		{row(3), []int{-1000000, 1000000, -1000000}, true},
		{row(3), []int{-1000000, 1000000, 1000000}, false},
		{row(3), []int{1000000, -1000000, 1000000}, false},
		{row(1), []int{-5}, true},
		{board{16, nil}, slices.Repeat([]int{-1000000}, 16), true},
		{dense(16, 40), slices.Repeat([]int{-1}, 16), false},
		{dense(16, 40), slices.Repeat([]int{1}, 16), true},
		{board{4, [][3]int{{0, 3, 1}}}, []int{1, 1, 9, 0}, true},
		{board{4, [][3]int{{0, 3, 1}}}, []int{2, 1, 9, 0}, false},
	} {
		is, e := peg.IsPagoda(x.n, x.lines, x.w)
		if is != x.want || e != api.OK || is != pagoda(x.board, x.w) {
			t.Errorf("IsPagoda of %v on %v: %t, %d", x.w, x.board, is, e)
		}
	}
}

func TestIsPagodaOfMany(t *testing.T) {
	next := numbers(7)
	pagodas := 0
	const tries = 3000
	for range tries {
		b := mixed(3+next(5), 1+next(4), next)
		var w []int
		for range b.n {
			w = append(w, next(9)-2)
		}
		is, e := peg.IsPagoda(b.n, b.lines, w)
		if is != pagoda(b, w) || e != api.OK {
			t.Errorf("IsPagoda of %v on %v: %t, %d", w, b, is, e)
		}
		if is {
			pagodas++
		}
		p, q := next(1<<b.n), next(1<<b.n)
		refutes, e := peg.Refutes(b.n, b.lines, p, q, w)
		if refutes != (is && weight(w, q) > weight(w, p)) || e != api.OK {
			t.Errorf("Refutes of %v for %d and %d on %v: %t, %d", w, p, q, b, refutes, e)
		}
	}
	if pagodas < 100 || pagodas > tries-100 {
		t.Errorf("%d of %d are pagodas: too few of one kind to test anything", pagodas, tries)
	}
}

func TestRefutes(t *testing.T) {
	for _, x := range []struct {
		board
		p, q int
		w    []int
		want bool
	}{
		{row(4), 1, 8, []int{1, 0, 1, 2}, false}, // no pagoda
		{row(4), 2, 4, []int{1, 0, 1, 1}, true},
		{row(4), 4, 2, []int{1, 0, 1, 1}, false},
		{row(4), 1, 4, []int{1, 0, 1, 1}, false}, // equally heavy
		{row(4), 5, 5, []int{1, 0, 1, 1}, false},
		{row(4), 3, 8, []int{1, 1, 2, 3}, true},
		{row(1), 1, 0, []int{-1}, true},
		{row(1), 0, 1, []int{1}, true},
		{board{16, nil}, 0, 65535, slices.Repeat([]int{1000000}, 16), true},
		{board{16, nil}, 65535, 0, slices.Repeat([]int{-1000000}, 16), true},
		{board{16, nil}, 65535, 65535, slices.Repeat([]int{-1000000}, 16), false},
	} {
		is, e := peg.Refutes(x.n, x.lines, x.p, x.q, x.w)
		if is != x.want || e != api.OK {
			t.Errorf("Refutes of %v for %d and %d on %v: %t, %d", x.w, x.p, x.q, x.board, is, e)
		}
	}
}

func TestInvalidWeights(t *testing.T) {
	for _, w := range [][]int{
		nil, {}, {1, 2, 3}, {0, 0, 0, 0, 0}, {0, 0, 0, 1000001}, {-1000001, 0, 0, 0}, {0, math.MaxInt, 0, 0}, {0, 0, math.MinInt, 0},
		{math.MinInt, math.MinInt, math.MinInt, math.MinInt}, make([]int, 16), make([]int, 100000),
	} {
		b := row(4)
		if is, e := peg.IsPagoda(b.n, b.lines, w); is || e != api.ErrArg {
			t.Errorf("IsPagoda of %.80s: %t, %d", fmt.Sprint(w), is, e)
		}
		if is, e := peg.Refutes(b.n, b.lines, 0, 15, w); is || e != api.ErrArg {
			t.Errorf("Refutes of %.80s: %t, %d", fmt.Sprint(w), is, e)
		}
	}
}

// checkSettled tests that there are either weights that refute a game or a plan, as they should be (P2.4, P2.5, P2.8).
func checkSettled(t *testing.T, b board, p, q int) (can bool) {
	t.Helper()
	what := fmt.Sprint(p, " and ", q, " on ", b)
	w, refuted, e := peg.Pagoda(b.n, b.lines, p, q)
	m, plan, can, f := peg.Plan(b.n, b.lines, p, q)
	if refuted == can || e != api.OK || f != api.OK {
		t.Errorf("%s: Pagoda %v, %t, %d; Plan %d, %v, %t, %d", what, w, refuted, e, m, plan, can, f)
		return can
	}
	if refuted {
		is, g := peg.Refutes(b.n, b.lines, p, q, w)
		if len(w) != b.n || !pagoda(b, w) || weight(w, q) <= weight(w, p) || slices.Max(w) > 1000000 || slices.Min(w) < -1000000 || !is || g != api.OK {
			t.Errorf("Pagoda of %s: %v", what, w)
		}
		if m != 0 || len(plan) != 0 {
			t.Errorf("Plan of %s: %d, %v, but false", what, m, plan)
		}
		return can
	}
	if len(w) != 0 {
		t.Errorf("Pagoda of %s: %v, but false", what, w)
	}
	if !isPlan(b, p, q, m, plan) || !peg.IsPlan(b.n, b.lines, p, q, m, plan) {
		t.Errorf("Plan of %s: %d, %v", what, m, plan)
	}
	return can
}

// isPlan counts hole by hole.
func isPlan(b board, p, q, m int, plan [][2]int) bool {
	if m < 1 || m > 1000000 || len(plan) != len(b.lines) {
		return false
	}
	for _, times := range plan {
		if min(times[0], times[1]) < 0 || max(times[0], times[1]) > 1000000 {
			return false
		}
	}
	for hole := range b.n {
		left := 0
		if has(p, hole) {
			left += m
		}
		if has(q, hole) {
			left -= m
		}
		for i, line := range b.lines {
			switch hole {
			case line[0]:
				left += plan[i][1] - plan[i][0]
			case line[1]:
				left -= plan[i][0] + plan[i][1]
			case line[2]:
				left += plan[i][0] - plan[i][1]
			}
		}
		if left != 0 {
			return false
		}
	}
	return true
}

func TestPagodaOrPlan(t *testing.T) {
	for _, b := range small {
		for p := range 1 << b.n {
			for q := range 1 << b.n {
				checkSettled(t, b, p, q)
			}
		}
	}
	for _, b := range []board{row(9), square, dense(9, 12), {9, nil}} {
		for p := 0; p < 1<<b.n; p += 5 {
			for q := 0; q < 1<<b.n; q += 11 {
				checkSettled(t, b, p, q)
			}
		}
	}
}

func TestPagodaOrPlanOfMany(t *testing.T) {
	next := numbers(11)
	plans, manifold := 0, 0
	const tries = 20000
	for range tries {
		n := 3 + next(7)
		b := mixed(n, min(12, 1+next(2*n)), next)
		// Positions with few pegs less are those that are hard to tell.
		p := next(1<<n) | next(1<<n)
		q := next(1<<n) & next(1<<n)
		if checkSettled(t, b, p, q) {
			plans++
			if m, _, _, _ := peg.Plan(b.n, b.lines, p, q); m > 1 {
				manifold++
			}
		}
	}
	if plans < 300 || plans > tries-300 || manifold < 20 {
		t.Errorf("%d of %d have a plan, %d of them with m > 1: too few of one kind to test anything", plans, tries, manifold)
	}
}

func TestPagodaAndPlanLimits(t *testing.T) {
	for _, x := range []struct {
		board
		want api.Errno
	}{
		{row(9), api.OK}, {dense(9, 12), api.OK}, {dense(4, 12), api.OK}, {board{9, nil}, api.OK},
		{row(10), api.ErrLong}, {board{10, nil}, api.ErrLong}, {board{16, nil}, api.ErrLong},
		{dense(9, 13), api.ErrLong}, {dense(5, 13), api.ErrLong}, {dense(16, 40), api.ErrLong},
	} {
		w, is, e := peg.Pagoda(x.n, x.lines, 0, 1)
		if e != x.want || e != api.OK && (is || len(w) != 0) {
			t.Errorf("Pagoda on %v: %v, %t, %d", x.board, w, is, e)
		}
		m, plan, is, e := peg.Plan(x.n, x.lines, 0, 0)
		if e != x.want || e != api.OK && (is || m != 0 || len(plan) != 0) {
			t.Errorf("Plan on %v: %d, %v, %t, %d", x.board, m, plan, is, e)
		}
	}
}

func TestPlanKnown(t *testing.T) {
	for _, x := range []struct {
		board
		p, q int
		want bool
	}{
		{row(3), 3, 4, true}, {row(3), 4, 3, false}, {row(4), 3, 8, false}, {row(4), 2, 4, false},
		{row(1), 1, 1, true}, {row(1), 1, 0, false}, {row(1), 0, 1, false},
		{row(5), 27, 27, true},
		// One jump there and one back, for two games: no game, but a plan.
		{row(3), 2, 0, true}, {row(3), 7, 5, true},
		{square, 511 - 16, 16, false},
		{square, 511, 0, false}, // no jump takes a corner away without bringing another one
		{square, 511 - 1 - 4 - 64 - 256, 0, true},
	} {
		if can := checkSettled(t, x.board, x.p, x.q); can != x.want {
			t.Errorf("Plan of %d and %d on %v: %t", x.p, x.q, x.board, can)
		}
	}
}

func TestIsPlan(t *testing.T) {
	for _, x := range []struct {
		board
		p, q, m int
		jumps   [][2]int
		want    bool
	}{
		{row(3), 3, 4, 1, [][2]int{{1, 0}}, true},
		{row(3), 3, 4, 2, [][2]int{{2, 0}}, true},
		{row(3), 3, 4, 1000000, [][2]int{{1000000, 0}}, true},
		{row(3), 3, 4, 1, [][2]int{{0, 1}}, false},
		{row(3), 6, 1, 1, [][2]int{{0, 1}}, true},
		{row(3), 6, 1, 1, [][2]int{{1, 0}}, false},
		{row(3), 3, 4, 1, [][2]int{{2, 0}}, false},
		{row(3), 3, 4, 1, [][2]int{{2, 1}}, false}, // the middle hole gives three
		{row(3), 2, 0, 2, [][2]int{{1, 1}}, true},
		{row(3), 2, 0, 1, [][2]int{{1, 1}}, false},
		{row(3), 3, 4, 0, [][2]int{{0, 0}}, false},
		{row(3), 3, 4, -1, [][2]int{{-1, 0}}, false},
		{row(3), 4, 3, 1, [][2]int{{-1, 0}}, false}, // a game backwards
		{row(3), 6, 3, 1, [][2]int{{-1, 1}}, false},
		{row(3), 3, 4, 1000001, [][2]int{{1000001, 0}}, false},
		{row(3), 3, 4, math.MaxInt, [][2]int{{math.MaxInt, 0}}, false},
		{row(3), 3, 4, math.MinInt, [][2]int{{math.MinInt, 0}}, false},
		{row(3), 2, 0, 1000000, [][2]int{{500000, 500000}}, true},
		{row(3), 3, 3, 1, nil, false},
		{row(3), 3, 3, 1, [][2]int{{0, 0}}, true},
		{row(3), 3, 3, 1, [][2]int{{0, 0}, {0, 0}}, false},
		{row(3), 3, 3, 1, make([][2]int, 100000), false},
		{row(3), 3, 3, 0, [][2]int{{0, 0}}, false},
		{row(3), 3, 3, 1000000, [][2]int{{0, 0}}, true},
		{row(3), 3, 3, 1000001, [][2]int{{0, 0}}, false},
		{row(3), 3, 3, math.MaxInt, [][2]int{{0, 0}}, false},
		{row(2), 3, 3, 1, nil, true},
		{row(2), 3, 3, 1, [][2]int{{0, 0}}, false},
		{row(2), 3, 1, 1, nil, false},
		{board{16, nil}, 65535, 65535, 5, nil, true}, // there is no limit of holes here
		{row(16), 3 << 14, 1 << 13, 1, append(make([][2]int, 13), [2]int{0, 1}), true},
		{dense(16, 40), 3, 4, 1, append([][2]int{{1, 0}}, make([][2]int, 39)...), true},
		{dense(16, 40), 3, 4, 1, append([][2]int{{1, 0}}, make([][2]int, 38)...), false},
	} {
		is := peg.IsPlan(x.n, x.lines, x.p, x.q, x.m, x.jumps)
		if is != x.want || is != isPlan(x.board, x.p, x.q, x.m, x.jumps) {
			t.Errorf("IsPlan of %d and %d on %d holes, %d, %.80s: %t", x.p, x.q, x.n, x.m, fmt.Sprint(x.jumps), is)
		}
	}
}

// The numbers of jumps have a limit of their own: here one jump is made twice in a game.
func TestIsPlanRange(t *testing.T) {
	b := board{9, [][3]int{{0, 1, 2}, {0, 4, 3}, {1, 6, 5}, {2, 7, 8}}}
	const p, q = 1<<0 | 1<<1 | 1<<3 | 1<<4 | 1<<5 | 1<<6 | 1<<7, 1<<2 | 1<<8
	for _, x := range []struct {
		m    int
		want bool
	}{{1, true}, {500000, true}, {500001, false}, {1000000, false}, {0, false}, {-1, false}, {math.MaxInt, false}} {
		if is := peg.IsPlan(b.n, b.lines, p, q, x.m, [][2]int{{2 * x.m, 0}, {0, x.m}, {0, x.m}, {x.m, 0}}); is != x.want {
			t.Errorf("IsPlan with m = %d: %t", x.m, is)
		}
	}
	if !checkSettled(t, b, p, q) {
		t.Errorf("Plan of %d and %d on %v: none", p, q, b)
	}
}

// Example 2 of the chapter.
func TestExample(t *testing.T) {
	b := row(4)
	if is, e := peg.Alike(4, b.lines, 3, 8); is || e != api.OK {
		t.Errorf("Alike: %t, %d", is, e)
	}
	if g, is, e := peg.Solve(4, b.lines, 3, 8); is || e != api.OK {
		t.Errorf("Solve: %v, %t, %d", g, is, e)
	}
	checkSettled(t, b, 3, 8)
}
