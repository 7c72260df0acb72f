package hanoi_test

import (
	"fmt"
	"math"
	"slices"
	"strings"
	"testing"

	"bibelot/api"
	"bibelot/hanoi"
)

func equal(t *testing.T, what, got, want string) {
	t.Helper()
	if got != want {
		t.Errorf("%s: %s, want %s", what, got, want)
	}
}

// spaced is the text of all parts, with a space between any two.
func spaced(parts ...any) string {
	return strings.TrimSuffix(fmt.Sprintln(parts...), "\n")
}

// on is n discs on a peg.
func on(n, peg int) []int {
	return slices.Repeat([]int{peg}, n)
}

// numbered is the position with that number: its digits, the one of the smallest disc the lowest one, are the pegs.
func numbered(number, n, pegs int) []int {
	discs := make([]int, n)
	for i := range discs {
		discs[i] = number % pegs
		number /= pegs
	}
	return discs
}

// power is how many positions n discs have.
func power(pegs, n int) int {
	out := 1
	for range n {
		out *= pegs
	}
	return out
}

// stacks are the discs of each peg, the lowest one first.
func stacks(discs []int, pegs int) [][]int {
	out := make([][]int, pegs)
	for disc := len(discs) - 1; disc >= 0; disc-- {
		out[discs[disc]] = append(out[discs[disc]], disc)
	}
	return out
}

// legal are the moves that the definition of a move allows, rising.
func legal(discs []int, pegs int) [][2]int {
	lie := stacks(discs, pegs)
	var moves [][2]int
	for from, stack := range lie {
		if len(stack) == 0 {
			continue
		}
		top := stack[len(stack)-1]
		for to, other := range lie {
			if to != from && (len(other) == 0 || other[len(other)-1] > top) {
				moves = append(moves, [2]int{top, to})
			}
		}
	}
	slices.SortFunc(moves, func(a, b [2]int) int { return slices.Compare(a[:], b[:]) })
	return moves
}

// end is the position after a way, or nil if it cannot be made.
func end(discs []int, pegs int, way [][2]int) []int {
	discs = slices.Clone(discs)
	for _, move := range way {
		if !slices.Contains(legal(discs, pegs), move) {
			return nil
		}
		discs[move[0]] = move[1]
	}
	return discs
}

// some are positions that differ from one seed to another one.
func some(n int, seed uint64) []int {
	discs := make([]int, n)
	for i := range discs {
		seed = seed*6364136223846793005 + 1442695040888963407
		discs[i] = int(seed >> 40 % 3)
	}
	return discs
}

// noDiscs are lists that are not discs.
func noDiscs() [][]int {
	return [][]int{nil, {}, {3}, {-1}, {0, 1, 2, 3}, {0, -1, 0}, {math.MaxInt}, {math.MinInt}, {256}, {1 << 32}, {-256}, on(41, 0), on(41, 7), on(1000, 1), append(on(39, 2), 3)}
}

func TestCheck(t *testing.T) {
	for _, l := range noDiscs() {
		equal(t, spaced("Check of", l), spaced(hanoi.Check(l)), spaced(api.ErrDiscs))
	}
	for _, l := range [][]int{{0}, {1}, {2}, {2, 1, 0}, {0, 0, 0}, on(40, 0), on(40, 2), some(40, 1)} {
		equal(t, spaced("Check of", l), spaced(hanoi.Check(l)), spaced(api.OK))
	}
}

func TestNoDiscs(t *testing.T) {
	one := func(s []int) string {
		moves, e := hanoi.Moves(s)
		discs, made, f := hanoi.Play(s, [][2]int{{0, 1}})
		most, g := hanoi.Farthest(s)
		return spaced(moves, e, discs, made, f, most, g)
	}
	for _, l := range noDiscs() {
		equal(t, spaced("of", l), one(l), "[] 30 [] 0 30 0 30")
		for _, other := range [][]int{{0}, l, {0, 0}, on(13, 1), nil} {
			equal(t, spaced("from", l, "to", other), two(l, other), "0 30 0 30 [] 30")
			equal(t, spaced("from", other, "to", l), two(other, l), "0 30 0 30 [] 30")
		}
	}
}

// two are the results of the functions that take two lists.
func two(s, q []int) string {
	d, e := hanoi.Distance(s, q)
	kind, f := hanoi.Kind(s, q)
	way, g := hanoi.Way(s, q)
	return spaced(d, e, kind, f, way, g)
}

func TestShapes(t *testing.T) {
	for _, x := range [][2][]int{{{0}, {0, 0}}, {{0, 0}, {0}}, {{0, 1, 2}, {0, 1}}, {on(40, 0), on(39, 0)}, {on(13, 0), on(14, 0)}, {on(12, 0), on(13, 0)}} {
		equal(t, spaced(x), two(x[0], x[1]), "0 6 0 6 [] 6")
	}
}

func TestMoves(t *testing.T) {
	for n := 1; n <= 6; n++ {
		for number := range power(3, n) {
			discs := numbered(number, n, 3)
			moves, e := hanoi.Moves(discs)
			equal(t, spaced("Moves of", discs), spaced(moves, e), spaced(legal(discs, 3), api.OK))
		}
	}
	for seed := range uint64(50) {
		discs := some(40, seed)
		moves, e := hanoi.Moves(discs)
		equal(t, spaced("Moves of", discs), spaced(moves, e), spaced(legal(discs, 3), api.OK))
	}
	for _, x := range []struct {
		discs []int
		want  string
	}{
		{[]int{0, 0, 0}, "[[0 1] [0 2]]"},
		{[]int{1, 0, 0}, "[[0 0] [0 2] [1 2]]"},
		{[]int{2, 1, 0}, "[[0 0] [0 1] [1 0]]"},
		{on(40, 2), "[[0 0] [0 1]]"},
		{append(on(39, 1), 0), "[[0 0] [0 2] [39 2]]"},
	} {
		moves, e := hanoi.Moves(x.discs)
		equal(t, spaced("Moves of", x.discs), spaced(moves, e), x.want+" 0")
	}
}

func TestPlay(t *testing.T) {
	for _, x := range []struct {
		discs []int
		way   [][2]int
		want  string
	}{
		{[]int{0, 0}, nil, "[0 0] 0"},
		{[]int{0, 0}, [][2]int{{0, 1}, {1, 2}, {0, 2}}, "[2 2] 3"},
		{[]int{0, 0}, [][2]int{{0, 1}, {1, 2}, {1, 1}, {0, 2}}, "[1 2] 2"},      // a greater disc on a smaller one
		{[]int{0, 0}, [][2]int{{1, 1}, {0, 1}}, "[0 0] 0"},                      // a disc that is not the top one
		{[]int{0, 0}, [][2]int{{0, 0}, {0, 1}}, "[0 0] 0"},                      // no other peg
		{[]int{0, 0}, [][2]int{{0, 1}, {0, 1}}, "[1 0] 1"},                      // no other peg any more
		{[]int{0, 0}, [][2]int{{0, 1}, {2, 1}}, "[1 0] 1"},                      // no such disc
		{[]int{0, 0}, [][2]int{{0, 1}, {-1, 1}, {0, 2}}, "[1 0] 1"},             // no such disc
		{[]int{0, 0}, [][2]int{{0, 3}}, "[0 0] 0"},                              // no such peg
		{[]int{0, 0}, [][2]int{{0, -1}}, "[0 0] 0"},                             // no such peg
		{[]int{0, 0}, [][2]int{{0, 256 + 1}}, "[0 0] 0"},                        // no such peg
		{[]int{2}, [][2]int{{math.MinInt, 0}}, "[2] 0"},                         // no such disc
		{[]int{2}, [][2]int{{math.MaxInt, 0}}, "[2] 0"},                         // no such disc
		{[]int{2}, [][2]int{{0, math.MaxInt}}, "[2] 0"},                         // no such peg
		{[]int{2}, [][2]int{{0, math.MinInt}}, "[2] 0"},                         // no such peg
		{[]int{2}, [][2]int{{0, 0}, {0, 1}, {0, 2}, {0, 1}, {0, 0}}, "[0] 5"},   // alone
		{[]int{1, 0, 2}, [][2]int{{1, 2}, {0, 2}, {2, 0}, {1, 0}}, "[2 2 2] 2"}, // not below others
	} {
		discs, made, e := hanoi.Play(x.discs, x.way)
		equal(t, spaced("Play of", x.way, "from", x.discs), spaced(discs, made, e), x.want+" 0")
	}
}

func TestPlayEachMove(t *testing.T) {
	for number := range power(3, 4) {
		discs := numbered(number, 4, 3)
		for disc := -2; disc <= 6; disc++ {
			for peg := -2; peg <= 5; peg++ {
				move := [2]int{disc, peg}
				want, count := slices.Clone(discs), 0
				if slices.Contains(legal(discs, 3), move) {
					want[disc], count = peg, 1
				}
				got, made, e := hanoi.Play(discs, [][2]int{move})
				equal(t, spaced("Play of", move, "from", discs), spaced(got, made, e), spaced(want, count, api.OK))
			}
		}
	}
}

func TestMemory(t *testing.T) {
	s, q, way := []int{1, 1, 0, 2}, []int{0, 2, 2, 1}, [][2]int{{0, 0}, {1, 1}}
	calls := func() string {
		moves, _ := hanoi.Moves(s)
		discs, made, _ := hanoi.Play(s, way)
		shortest, _ := hanoi.Way(s, q)
		frame, _ := hanoi.FrameWay(4, 4)
		most, _ := hanoi.Farthest(s)
		steps, _ := hanoi.Steps("0110")
		out := spaced(moves, discs, made, shortest, frame, most, steps, two(s, q))
		// Results share no memory with what is kept or given.
		moves[0], discs[0], shortest[0], frame[0], steps[0] = [2]int{9, 9}, 9, [2]int{9, 9}, [2]int{9, 9}, 9
		return out
	}
	first := calls()
	equal(t, "the same calls again", calls(), first)
	equal(t, "the arguments", spaced(s, q, way), "[1 1 0 2] [0 2 2 1] [[0 0] [1 1]]")
	discs, _, _ := hanoi.Play(s, nil)
	discs[0] = 9
	equal(t, "the argument", spaced(s), "[1 1 0 2]")
}
