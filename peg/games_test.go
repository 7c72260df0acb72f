package peg_test

import (
	"fmt"
	"math/bits"
	"slices"
	"testing"

	"bibelot/api"
	"bibelot/peg"
)

func count(p int) int {
	return bits.OnesCount(uint(p))
}

// reach finds for each position those to which games from it lead, from those with the fewest pegs on.
func reach(b board) []map[int]bool {
	all := make([]map[int]bool, 1<<b.n)
	for pegs := range b.n + 1 {
		for p := range all {
			if count(p) != pegs {
				continue
			}
			all[p] = map[int]bool{p: true}
			for _, j := range jumps(b, p) {
				for q := range all[after(b, p, j)] {
					all[p][q] = true
				}
			}
		}
	}
	return all
}

// playOut is the position after a game, or -1 if it cannot be played.
func playOut(b board, p int, game [][3]int) int {
	for _, j := range game {
		p = after(b, p, j)
		if p < 0 {
			return -1
		}
	}
	return p
}

func TestReached(t *testing.T) {
	for _, b := range append(slices.Clone(small), square) {
		all := reach(b)
		for p := range 1 << b.n {
			var want []int
			fewest := b.n
			for q := range 1 << b.n {
				if all[p][q] {
					want = append(want, q)
					fewest = min(fewest, count(q))
				}
			}
			l, e := peg.Reached(b.n, b.lines, p)
			equal(t, fmt.Sprint("Reached from ", p, " on ", b), fmt.Sprint(l, e), fmt.Sprint(want, api.OK))
			n, e := peg.Fewest(b.n, b.lines, p)
			equal(t, fmt.Sprint("Fewest from ", p, " on ", b), fmt.Sprint(n, e), fmt.Sprint(fewest, api.OK))
		}
	}
}

func TestReachedKnown(t *testing.T) {
	for _, x := range []struct {
		board
		p    int
		want string
		few  int
	}{
		{row(4), 13, "[3 4 13]", 1},
		{row(3), 3, "[3 4]", 1},
		{row(3), 7, "[7]", 3},
		{row(3), 0, "[0]", 0},
		{row(1), 1, "[1]", 1},
		{row(6), 11, "[2 11 12 16]", 1},
		{board{16, nil}, 65535, "[65535]", 16},
		{row(16), 65535, "[65535]", 16},
		{row(16), 1 << 15, "[32768]", 1},
	} {
		l, e := peg.Reached(x.n, x.lines, x.p)
		equal(t, fmt.Sprint("Reached from ", x.p), fmt.Sprint(l, e), x.want+" 0")
		n, e := peg.Fewest(x.n, x.lines, x.p)
		equal(t, fmt.Sprint("Fewest from ", x.p), fmt.Sprint(n, e), fmt.Sprint(x.few, api.OK))
	}
}

// The triangle of ten holes can be played down to one peg just from an empty hole in the middle of an edge.
func TestTriangle(t *testing.T) {
	for hole := range 10 {
		n, e := peg.Fewest(10, triangle.lines, 1023-1<<hole)
		solvable := hole != 0 && hole != 4 && hole != 6 && hole != 9
		if (n == 1) != solvable || e != api.OK {
			t.Errorf("Fewest of the triangle without %d: %d, %d", hole, n, e)
		}
	}
}

// P2.2 and P2.6: games are found just where there are some, with as many jumps as pegs go; to each game there is one backwards; who has a game is alike, has a plan, and nothing refutes it.
func TestSolve(t *testing.T) {
	for _, b := range append(slices.Clone(small), dense(5, 30)) {
		all := reach(b)
		full := 1<<b.n - 1
		for p := range 1 << b.n {
			for q := range 1 << b.n {
				g, ok, e := peg.Solve(b.n, b.lines, p, q)
				if ok != all[p][q] || e != api.OK || !ok && len(g) != 0 {
					t.Errorf("Solve of %d and %d on %v: %v, %t, %d", p, q, b, g, ok, e)
				}
				if ok != all[full-q][full-p] {
					t.Errorf("%d and %d on %v: no game backwards", p, q, b)
				}
				if ok {
					checkGame(t, b, p, q, g)
				}
			}
		}
	}
}

func checkGame(t *testing.T, b board, p, q int, g [][3]int) {
	t.Helper()
	if playOut(b, p, g) != q || len(g) != count(p)-count(q) {
		t.Errorf("Solve of %d and %d on %v: %v", p, q, b, g)
	}
	if end, e := peg.Play(b.n, b.lines, p, g); end != q || e != api.OK {
		t.Errorf("Play of %d, %v on %v: %d, %d", p, g, b, end, e)
	}
	if is, e := peg.Alike(b.n, b.lines, p, q); !is || e != api.OK {
		t.Errorf("%d and %d on %v are not alike, but there is a game", p, q, b)
	}
	if b.n > 9 || len(b.lines) > 12 {
		return
	}
	if w, is, e := peg.Pagoda(b.n, b.lines, p, q); is || e != api.OK {
		t.Errorf("Pagoda of %d and %d on %v: %v, %t, %d, but there is a game", p, q, b, w, is, e)
	}
	if _, _, is, e := peg.Plan(b.n, b.lines, p, q); !is || e != api.OK {
		t.Errorf("Plan of %d and %d on %v: %t, %d, but there is a game", p, q, b, is, e)
	}
	// The game itself is a plan, each jump counted.
	plan := make([][2]int, len(b.lines))
	for _, j := range g {
		if i := slices.Index(b.lines, j); i >= 0 {
			plan[i][0]++
		} else {
			plan[slices.Index(b.lines, [3]int{j[2], j[1], j[0]})][1]++
		}
	}
	if !peg.IsPlan(b.n, b.lines, p, q, 1, plan) {
		t.Errorf("IsPlan of %d and %d on %v: not %v", p, q, b, plan)
	}
}

// Games on large boards: forwards and, with the holes exchanged, backwards.
func TestSolveLarge(t *testing.T) {
	const full = 1<<16 - 1
	for _, b := range []board{row(16), dense(16, 40), mixed(16, 40, numbers(1)), mixed(16, 30, numbers(2))} {
		next := numbers(3)
		for range 4 {
			p := next(full + 1)
			l, e := peg.Reached(b.n, b.lines, p)
			if e != api.OK || !slices.Contains(l, p) || !slices.IsSorted(l) {
				t.Fatalf("Reached from %d: %d positions, error %d", p, len(l), e)
			}
			q := l[next(len(l))]
			g, ok, e := peg.Solve(b.n, b.lines, p, q)
			if !ok || e != api.OK {
				t.Errorf("Solve of %d and %d: %t, %d", p, q, ok, e)
			}
			checkGame(t, b, p, q, g)
			g, ok, e = peg.Solve(b.n, b.lines, full-q, full-p)
			if !ok || e != api.OK {
				t.Errorf("Solve of %d and %d: %t, %d", full-q, full-p, ok, e)
			}
			checkGame(t, b, full-q, full-p, g)
		}
	}
}

func TestSolveKnown(t *testing.T) {
	for _, x := range []struct {
		board
		p, q int
		want bool
	}{
		{row(3), 3, 4, true}, {row(4), 3, 8, false}, {row(4), 13, 4, true}, {row(4), 13, 2, false},
		{row(5), 27, 27, true}, {row(6), 11, 16, true}, {row(8), 254, 1, false},
		{row(1), 1, 0, false}, {row(1), 0, 0, true}, {row(3), 4, 3, false}, {board{16, nil}, 65535, 65534, false},
	} {
		g, ok, e := peg.Solve(x.n, x.lines, x.p, x.q)
		if ok != x.want || e != api.OK || ok && playOut(x.board, x.p, g) != x.q || !ok && len(g) != 0 {
			t.Errorf("Solve of %d and %d on %v: %v, %t, %d", x.p, x.q, x.board, g, ok, e)
		}
	}
}
