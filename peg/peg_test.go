package peg_test

import (
	"fmt"
	"math"
	"slices"
	"testing"

	"bibelot/api"
	"bibelot/peg"
)

type board struct {
	n     int
	lines [][3]int
}

// row is the board of n holes in a row.
func row(n int) board {
	var lines [][3]int
	for i := range max(0, n-2) {
		lines = append(lines, [3]int{i, i + 1, i + 2})
	}
	return board{n, lines}
}

// dense is the board of n holes with as many lines as allowed of all that n holes can have, in their order.
func dense(n, allowed int) board {
	var lines [][3]int
	for a := range n {
		for b := range n {
			for c := a + 1; c < n; c++ {
				if b != a && b != c && len(lines) < allowed {
					lines = append(lines, [3]int{a, b, c})
				}
			}
		}
	}
	return board{n, lines}
}

var (
	square = board{9, [][3]int{{0, 1, 2}, {0, 3, 6}, {1, 4, 7}, {2, 5, 8}, {3, 4, 5}, {6, 7, 8}}}
	// triangle has its holes in rows of 1, 2, 3 and 4.
	triangle = board{10, [][3]int{{0, 1, 3}, {0, 2, 5}, {1, 3, 6}, {1, 4, 8}, {2, 4, 7}, {2, 5, 9}, {3, 4, 5}, {6, 7, 8}, {7, 8, 9}}}
)

// small are boards on which all positions can be tried with all others.
var small = []board{
	row(1), row(2), row(3), row(4), row(5), row(6),
	{5, nil},
	{4, [][3]int{{0, 3, 1}}},                                  // the middle hole need not lie between
	{4, [][3]int{{1, 0, 2}, {1, 3, 2}}},                       // two ways between the same holes
	{3, [][3]int{{0, 1, 2}, {0, 2, 1}, {1, 0, 2}}},            // all lines of three holes
	{6, [][3]int{{0, 1, 2}, {3, 4, 5}}},                       // two boards in one
	{6, [][3]int{{0, 1, 2}, {0, 5, 4}, {2, 3, 4}}},            // a ring
	{5, [][3]int{{0, 2, 1}, {0, 2, 3}, {0, 2, 4}, {1, 2, 3}}}, // a star
	dense(4, 12), dense(5, 12), dense(6, 12),
}

// numbers gives numbers below a limit that follow a short rule.
func numbers(seed int) func(limit int) int {
	return func(limit int) int {
		seed = (seed*1103515245 + 12345) % (1 << 31)
		return seed >> 12 % limit
	}
}

// mixed is a board with these numbers of holes and, of all their lines, about so many.
func mixed(n, lines int, next func(int) int) board {
	all := dense(n, math.MaxInt).lines
	var some [][3]int
	for i, line := range all {
		if next(len(all)-i) < lines-len(some) {
			some = append(some, line)
		}
	}
	return board{n, some}
}

// invalid are no boards, with the error of each.
var invalid = []struct {
	board
	want api.Errno
}{
	{board{0, nil}, api.ErrArg},
	{board{-1, nil}, api.ErrArg},
	{board{17, nil}, api.ErrArg},
	{board{64, nil}, api.ErrArg},
	{board{math.MaxInt, nil}, api.ErrArg},
	{board{math.MinInt, [][3]int{{0, 1, 2}}}, api.ErrArg},
	{board{0, make([][3]int, 41)}, api.ErrArg},
	{board{17, [][3]int{{2, 1, 0}}}, api.ErrArg},
	{board{3, make([][3]int, 41)}, api.ErrLong},
	{dense(16, 41), api.ErrLong},
	{board{16, make([][3]int, 100000)}, api.ErrLong},
	{board{3, make([][3]int, 1)}, api.ErrBoard},
	{board{3, make([][3]int, 40)}, api.ErrBoard},
	{board{3, [][3]int{{2, 1, 0}}}, api.ErrBoard},
	{board{3, [][3]int{{0, 0, 2}}}, api.ErrBoard},
	{board{3, [][3]int{{0, 2, 2}}}, api.ErrBoard},
	{board{3, [][3]int{{1, 0, 1}}}, api.ErrBoard},
	{board{3, [][3]int{{0, 1, 3}}}, api.ErrBoard},
	{board{3, [][3]int{{0, 3, 2}}}, api.ErrBoard},
	{board{3, [][3]int{{-1, 1, 2}}}, api.ErrBoard},
	{board{3, [][3]int{{0, -1, 2}}}, api.ErrBoard},
	{board{3, [][3]int{{-2, 0, -1}}}, api.ErrBoard},
	{board{2, [][3]int{{0, 1, 2}}}, api.ErrBoard},
	{board{16, [][3]int{{0, 1, math.MaxInt}}}, api.ErrBoard},
	{board{16, [][3]int{{math.MinInt, 1, 2}}}, api.ErrBoard},
	{board{16, [][3]int{{0, math.MaxInt, 2}}}, api.ErrBoard},
	{board{3, [][3]int{{0, 1, 2}, {0, 1, 2}}}, api.ErrBoard},
	{board{4, [][3]int{{1, 2, 3}, {0, 1, 2}}}, api.ErrBoard},
	{board{4, [][3]int{{0, 2, 3}, {0, 1, 3}}}, api.ErrBoard},
	{board{4, [][3]int{{0, 1, 3}, {0, 1, 2}}}, api.ErrBoard},
	{board{4, [][3]int{{0, 1, 2}, {0, 1, 4}}}, api.ErrBoard}, // the last line
	{board{10, [][3]int{{0, 1, 2}, {0, 1, 2}}}, api.ErrBoard},
}

func equal(t *testing.T, what string, got, want any) {
	t.Helper()
	if g, w := fmt.Sprint(got), fmt.Sprint(want); g != w {
		t.Errorf("%s: %s, want %s", what, g, w)
	}
}

// answer is the error of a call, and whether its other results are zero.
type answer struct {
	e    api.Errno
	zero bool
}

// callAll calls all that takes one position, two, or none, with as many of p and q.
func callAll(b board, p, q int) (one, two, none map[string]answer) {
	one, two, none = map[string]answer{}, map[string]answer{}, map[string]answer{}
	list, e := peg.Jumps(b.n, b.lines, p)
	one["Jumps"] = answer{e, len(list) == 0}
	n, e := peg.Play(b.n, b.lines, p, nil)
	one["Play"] = answer{e, n == 0}
	n, e = peg.Play(b.n, b.lines, p, [][3]int{{0, 0, 0}})
	one["Play of no jump"] = answer{e, n == 0}
	positions, e := peg.Reached(b.n, b.lines, p)
	one["Reached"] = answer{e, len(positions) == 0}
	n, e = peg.Fewest(b.n, b.lines, p)
	one["Fewest"] = answer{e, n == 0}

	list, is, e := peg.Solve(b.n, b.lines, p, q)
	two["Solve"] = answer{e, len(list) == 0 && !is}
	is, e = peg.Alike(b.n, b.lines, p, q)
	two["Alike"] = answer{e, !is}
	is, e = peg.Refutes(b.n, b.lines, p, q, make([]int, max(0, min(16, b.n))))
	two["Refutes"] = answer{e, !is}
	is, e = peg.Refutes(b.n, b.lines, p, q, nil)
	two["Refutes without weights"] = answer{e, !is}
	weights, is, e := peg.Pagoda(b.n, b.lines, p, q)
	two["Pagoda"] = answer{e, len(weights) == 0 && !is}
	m, plan, is, e := peg.Plan(b.n, b.lines, p, q)
	two["Plan"] = answer{e, m == 0 && len(plan) == 0 && !is}

	rules, e := peg.Rules(b.n, b.lines)
	none["Rules"] = answer{e, len(rules) == 0}
	is, e = peg.IsPagoda(b.n, b.lines, make([]int, max(0, min(16, b.n))))
	none["IsPagoda"] = answer{e, !is}
	is, e = peg.IsPagoda(b.n, b.lines, nil)
	none["IsPagoda without weights"] = answer{e, !is}
	return one, two, none
}

func expect(t *testing.T, what string, answers map[string]answer, want api.Errno) {
	t.Helper()
	for name, a := range answers {
		if a.e != want || !a.zero {
			t.Errorf("%s, %.80s: error %d, want %d; others zero: %t", name, what, a.e, want, a.zero)
		}
	}
}

func TestCheck(t *testing.T) {
	for _, x := range invalid {
		if e := peg.Check(x.n, x.lines); e != x.want {
			t.Errorf("Check of %d, %.80s: %d, want %d", x.n, fmt.Sprint(x.lines), e, x.want)
		}
	}
	valid := append(slices.Clone(small), square, triangle, row(16), dense(16, 40), dense(5, 30), board{16, nil}, board{16, [][3]int{}})
	for _, b := range valid {
		if e := peg.Check(b.n, b.lines); e != api.OK {
			t.Errorf("Check of %d, %v: %d", b.n, b.lines, e)
		}
	}
}

// The error of a board comes before those of positions, weights and jumps.
func TestInvalidBoards(t *testing.T) {
	for _, x := range invalid {
		for _, p := range []int{0, 1, -1} {
			what := fmt.Sprint(x.n, p, x.lines)
			one, two, none := callAll(x.board, p, p)
			expect(t, what, one, x.want)
			expect(t, what, two, x.want)
			expect(t, what, none, x.want)
			if peg.IsPlan(x.n, x.lines, p, p, 1, make([][2]int, len(x.lines))) {
				t.Errorf("IsPlan of %.80s", what)
			}
		}
	}
}

// Pagoda and Plan name the error of positions before that of a board that is too large for them.
func TestInvalidPositions(t *testing.T) {
	for _, b := range []board{row(1), row(3), square, row(9), row(10), row(16), dense(9, 13), dense(16, 40)} {
		for _, p := range []int{-1, 1 << b.n, 1<<b.n + 1, 1 << 40, math.MaxInt, math.MinInt} {
			what := fmt.Sprint(p, " of ", b.n)
			one, two, _ := callAll(b, p, p)
			expect(t, what, one, api.ErrArg)
			expect(t, what, two, api.ErrArg)
			_, two, _ = callAll(b, p, 0)
			expect(t, what+", first", two, api.ErrArg)
			_, two, _ = callAll(b, 0, p)
			expect(t, what+", second", two, api.ErrArg)
			none := make([][2]int, len(b.lines))
			if peg.IsPlan(b.n, b.lines, p, p, 1, none) || peg.IsPlan(b.n, b.lines, p, 0, 1, none) || peg.IsPlan(b.n, b.lines, 0, p, 1, none) {
				t.Errorf("IsPlan of %s", what)
			}
		}
	}
}

// has tells whether a hole has a peg.
func has(p, hole int) bool {
	return p/(1<<hole)%2 == 1
}

// after is the position after a jump, or -1 if it cannot be made, found hole by hole.
func after(b board, p int, j [3]int) int {
	if !slices.Contains(b.lines, j) && !slices.Contains(b.lines, [3]int{j[2], j[1], j[0]}) {
		return -1
	}
	if !has(p, j[0]) || !has(p, j[1]) || has(p, j[2]) {
		return -1
	}
	return p - 1<<j[0] - 1<<j[1] + 1<<j[2]
}

// jumps tries all lists of three holes, in their order.
func jumps(b board, p int) [][3]int {
	var list [][3]int
	for i := range b.n {
		for k := range b.n {
			for m := range b.n {
				if after(b, p, [3]int{i, k, m}) >= 0 {
					list = append(list, [3]int{i, k, m})
				}
			}
		}
	}
	return list
}

func TestJumps(t *testing.T) {
	for _, b := range append(slices.Clone(small), square, dense(5, 30)) {
		for p := range 1 << b.n {
			l, e := peg.Jumps(b.n, b.lines, p)
			if e != api.OK {
				t.Errorf("Jumps of %v, %d: error %d", b, p, e)
			}
			equal(t, fmt.Sprint("Jumps of ", b, p), l, jumps(b, p))
		}
	}
	for _, x := range []struct {
		board
		p    int
		want string
	}{
		{row(4), 6, "[[1 2 3] [2 1 0]]"},
		{row(16), 3 << 14, "[[15 14 13]]"},
		{row(16), 3, "[[0 1 2]]"},
		{row(3), 7, "[]"},
		{row(3), 5, "[]"},
		{square, 511 - 1, "[[2 1 0] [6 3 0]]"},
		{board{4, [][3]int{{0, 3, 1}, {0, 3, 2}, {1, 0, 3}}}, 9, "[[0 3 1] [0 3 2] [3 0 1]]"},
	} {
		l, e := peg.Jumps(x.n, x.lines, x.p)
		equal(t, fmt.Sprint("Jumps from ", x.p), fmt.Sprint(l, e), x.want+" 0")
	}
}

func TestPlay(t *testing.T) {
	for _, x := range []struct {
		board
		p    int
		game [][3]int
		want int
	}{
		{row(3), 3, [][3]int{{0, 1, 2}}, 4},
		{row(3), 6, [][3]int{{2, 1, 0}}, 1},
		{row(3), 5, nil, 5},
		{row(1), 0, [][3]int{}, 0},
		{row(4), 13, [][3]int{{3, 2, 1}, {0, 1, 2}}, 4},
		{row(16), 65535 - 4, [][3]int{{0, 1, 2}, {3, 2, 1}}, 65535 - 13},
		{square, 511 - 1, [][3]int{{2, 1, 0}, {7, 4, 1}}, 511 - 4 - 16 - 128},
		{board{4, [][3]int{{0, 3, 1}}}, 9, [][3]int{{0, 3, 1}}, 2},
	} {
		if p, e := peg.Play(x.n, x.lines, x.p, x.game); p != x.want || e != api.OK {
			t.Errorf("Play of %d, %v: %d, %d, want %d", x.p, x.game, p, e, x.want)
		}
	}
}

func TestPlayInvalid(t *testing.T) {
	for _, x := range []struct {
		board
		p    int
		game [][3]int
	}{
		{row(3), 3, [][3]int{{2, 1, 0}}},
		{row(3), 3, [][3]int{{0, 1, 2}, {0, 1, 2}}},
		{row(3), 3, [][3]int{{0, 1, 2}, {2, 1, 0}}},
		{row(3), 3, [][3]int{{0, 2, 1}}}, // no line
		{row(3), 7, [][3]int{{0, 1, 2}}}, // the last hole has a peg
		{row(3), 1, [][3]int{{0, 1, 2}}}, // nothing to jump over
		{row(3), 2, [][3]int{{0, 1, 2}}}, // nothing that jumps
		{row(3), 3, [][3]int{{0, 1, 9}}},
		{row(3), 3, [][3]int{{0, 1, 2}, {0, 1, 9}}},
		{row(3), 3, [][3]int{{0, 1, -1}}},
		{row(3), 3, [][3]int{{-1, -1, -1}}},
		{row(3), 3, [][3]int{{math.MinInt, math.MaxInt, 64}}},
		{row(3), 3, [][3]int{{0, 0, 0}}},
		{row(3), 3, make([][3]int, 100000)},
		{row(3), 3, slices.Repeat([][3]int{{0, 1, 2}}, 100000)},
		{row(5), 3, [][3]int{{0, 1, 2}, {2, 3, 4}}},
		{row(5), 3 + 16, [][3]int{{1, 0, 4}}},
		{board{5, nil}, 3, [][3]int{{0, 1, 2}}},
		{board{4, [][3]int{{0, 3, 1}}}, 3, [][3]int{{0, 1, 3}}},
		{board{4, [][3]int{{0, 3, 1}}}, 3, [][3]int{{1, 0, 3}}},
	} {
		if p, e := peg.Play(x.n, x.lines, x.p, x.game); p != 0 || e != api.ErrJump {
			t.Errorf("Play of %d, %.80s: %d, %d", x.p, fmt.Sprint(x.game), p, e)
		}
	}
	// All lists of three numbers in and around the board.
	for _, b := range []board{row(4), {4, [][3]int{{0, 3, 1}}}, dense(4, 12)} {
		for p := range 1 << b.n {
			for i := range 6 * 6 * 6 {
				j := [3]int{i/36 - 1, i/6%6 - 1, i%6 - 1}
				want, wantE := after(b, p, j), api.OK
				if want < 0 {
					want, wantE = 0, api.ErrJump
				}
				if q, e := peg.Play(b.n, b.lines, p, [][3]int{j}); q != want || e != wantE {
					t.Errorf("Play of %v from %d on %v: %d, %d", j, p, b, q, e)
				}
			}
		}
	}
}

// Arguments are neither changed nor kept, what lies beyond their length is not touched, and results are new each time.
func TestMemory(t *testing.T) {
	lines := append(slices.Clone(square.lines), [3]int{99, 99, 99})[:6]
	game := append(make([][3]int, 0, 2), [3]int{0, 1, 2}, [3]int{99, 99, 99})[:1]
	weights := append(slices.Repeat([]int{1}, 9), math.MaxInt)[:9]
	plan := append(make([][2]int, 6), [2]int{99, 99})[:6]
	before := fmt.Sprint(lines[:7], game[:2], weights[:10], plan[:7])
	read := func() string {
		l, e := peg.Jumps(9, lines, 3)
		games, is, f := peg.Solve(9, lines, 3, 4)
		positions, g := peg.Reached(9, lines, 3)
		rules, h := peg.Rules(9, lines)
		pagoda, can, i := peg.Pagoda(9, lines, 3, 8)
		m, times, there, j := peg.Plan(9, lines, 3, 4)
		q, k := peg.Play(9, lines, 3, game)
		is1, o := peg.IsPagoda(9, lines, weights)
		is2, r := peg.Refutes(9, lines, 3, 8, weights)
		is3 := peg.IsPlan(9, lines, 3, 3, 1, plan)
		text := fmt.Sprint(l, e, games, is, f, positions, g, rules, h, pagoda, can, i, m, times, there, j, q, k, is1, o, is2, r, is3)
		// What the caller does with results must not be seen later.
		clear(l)
		clear(games)
		clear(positions)
		clear(rules)
		clear(pagoda)
		clear(times)
		return text
	}
	first := read()
	equal(t, "a second time", read(), first)
	equal(t, "arguments", fmt.Sprint(lines[:7], game[:2], weights[:10], plan[:7]), before)
	lines[0] = [3]int{0, 1, 5}
	l, e := peg.Jumps(9, lines, 3)
	equal(t, "Jumps after a change of the lines", fmt.Sprint(l, e), "[[0 1 5]] 0")
}
