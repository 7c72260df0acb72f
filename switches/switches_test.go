package switches_test

import (
	"fmt"
	"math"
	"slices"
	"strings"
	"testing"

	"bibelot/api"
	"bibelot/switches"
)

type game = switches.Game

// numbers makes a source of numbers below a bound, always the same ones for a seed.
func numbers(seed uint64) func(below int) int {
	return func(below int) int {
		seed = seed*6364136223846793005 + 1442695040888963407
		return int(seed >> 33 % uint64(below))
	}
}

// pairs are all wires that n places can have.
func pairs(n int) [][2]int {
	var all [][2]int
	for i := range n {
		for k := i + 1; k < n; k++ {
			all = append(all, [2]int{i, k})
		}
	}
	return all
}

// chains are all lists, in order, of so many of some wires, each as often as you like.
func chains(from [][2]int, number int) [][][2]int {
	if number == 0 {
		return [][][2]int{nil}
	}
	var all [][][2]int
	for i, wire := range from {
		for _, rest := range chains(from[i:], number-1) {
			all = append(all, append([][2]int{wire}, rest...))
		}
	}
	return all
}

// games are all games of n places with so many wires and those ends.
func games(n, wires int, ends ...[2]int) []game {
	var all []game
	for _, list := range chains(pairs(n), wires) {
		for _, end := range ends {
			all = append(all, game{n, end[0], end[1], list})
		}
	}
	return all
}

// tiny are games of which all lists of wires can be tried with all others.
func tiny() []game {
	var all []game
	for wires := range 6 {
		all = append(all, games(2, wires, [2]int{0, 1}, [2]int{1, 0})...)
		all = append(all, games(3, wires, [2]int{0, 1}, [2]int{2, 0}, [2]int{1, 2})...)
	}
	for wires := range 5 {
		all = append(all, games(4, wires, [2]int{0, 3}, [2]int{2, 1})...)
	}
	return append(all, games(4, 5, [2]int{0, 1})...)
}

// some is a game of n places with so many wires.
func some(n, wires int, pick func(int) int) game {
	g := game{N: n, S: pick(n), Wires: make([][2]int, wires)}
	g.T = (g.S + 1 + pick(n-1)) % n
	all := pairs(n)
	for k := range g.Wires {
		g.Wires[k] = all[pick(len(all))]
	}
	slices.SortFunc(g.Wires, byOrder)
	return g
}

func byOrder(a, b [2]int) int {
	return slices.Compare(a[:], b[:])
}

// mixed are some games of each number of places and of wires.
func mixed() []game {
	pick := numbers(8)
	var all []game
	for n := 2; n <= 8; n++ {
		for wires := range 11 {
			for range 3 {
				all = append(all, some(n, wires, pick))
			}
		}
		for range 12 {
			all = append(all, some(n, 10, pick))
		}
	}
	return all
}

// known are games of which this and that is known.
func known() map[string]game {
	return map[string]game{
		"none":   {2, 0, 1, nil},
		"one":    {2, 0, 1, [][2]int{{0, 1}}},
		"double": {2, 1, 0, [][2]int{{0, 1}, {0, 1}}},
		"ten":    {2, 0, 1, slices.Repeat([][2]int{{0, 1}}, 10)},
		"series": {3, 0, 2, [][2]int{{0, 1}, {1, 2}}},
		"thick":  {3, 0, 2, [][2]int{{0, 1}, {0, 1}, {1, 2}, {1, 2}}},
		"ring":   {3, 0, 1, [][2]int{{0, 1}, {0, 2}, {1, 2}}},
		"bridge": {4, 0, 3, [][2]int{{0, 1}, {0, 2}, {1, 2}, {1, 3}, {2, 3}}},
		"four":   {4, 0, 3, [][2]int{{0, 1}, {0, 2}, {0, 3}, {1, 2}, {1, 3}, {2, 3}}},
		"aside":  {8, 7, 2, [][2]int{{0, 1}, {2, 7}, {2, 7}, {3, 4}}},                                                 // two trees, but not on all places
		"five":   {5, 0, 4, pairs(5)},                                                                                 // all wires of five places
		"long":   {6, 0, 5, [][2]int{{0, 1}, {0, 1}, {1, 2}, {1, 2}, {2, 3}, {2, 3}, {3, 4}, {3, 4}, {4, 5}, {4, 5}}}, // as few wires as two trees on six places need
		"seven":  {8, 0, 7, [][2]int{{0, 1}, {1, 2}, {2, 3}, {3, 4}, {4, 5}, {5, 6}, {6, 7}}},
	}
}

// invalid are no games.
func invalid() []game {
	all := []game{
		{}, {0, 0, 1, nil}, {1, 0, 0, nil}, {1, 0, 1, nil}, {2, 0, 0, nil}, {2, 1, 1, nil}, {2, 0, 2, nil}, {2, 2, 0, nil}, {2, -1, 0, nil}, {2, 0, -1, nil}, {9, 0, 1, nil}, {-2, -1, -2, nil}, {-2, 0, 1, nil},
		{64, 0, 1, nil}, {1<<32 + 2, 0, 1, nil}, {math.MaxInt, 0, 1, nil}, {math.MinInt, 0, 1, nil}, {8, 8, 0, nil}, {8, 0, 8, nil}, {8, math.MinInt, 0, nil}, {8, 0, math.MaxInt, nil}, {2, 1 << 32, 1, nil}, {2, 0, 1<<32 + 1, nil}, {8, 9, 9, nil},
		{2, 0, 1, slices.Repeat([][2]int{{0, 1}}, 11)}, {8, 0, 1, slices.Repeat([][2]int{{0, 1}}, 100000)}, {8, 0, 1, pairs(8)},
	}
	for _, wires := range [][][2]int{
		{{1, 0}}, {{0, 0}}, {{1, 1}}, {{0, 3}}, {{1, 3}}, {{2, 3}}, {{3, 4}}, {{-1, 0}}, {{-1, 2}}, {{-2, -1}}, {{0, 1}, {1, 3}}, {{0, 1}, {1, 1}, {1, 2}}, {{0, 1}, {2, 1}}, {{-1, 1}, {0, 1}},
		{{0, 2}, {0, 1}}, {{1, 2}, {0, 1}}, {{1, 2}, {0, 2}}, {{0, 1}, {1, 2}, {0, 2}}, {{0, 1}, {1, 2}, {1, 2}, {0, 2}}, {{0, 1}, {0, 1}, {1, 2}, {0, 1}},
		{{0, math.MaxInt}}, {{math.MinInt, 1}}, {{math.MinInt, math.MaxInt}}, {{0, 1<<32 + 1}}, {{1 << 32, 1<<32 + 1}}, {{-256, 1}}, {{0, 8}},
	} {
		all = append(all, game{3, 0, 2, wires})
	}
	return all
}

// all puts the results of a call into one list.
func all(results ...any) []any {
	return results
}

// wantRefused wants that error and nothing else: the results, the error last.
func wantRefused(t *testing.T, want api.Errno, name string, results []any) {
	t.Helper()
	last := len(results) - 1
	for _, x := range results[:last] {
		if s := fmt.Sprint(x); !slices.Contains([]string{"0", "false", "", "[]", "[[] []]", "{0 0 0 []}"}, s) {
			t.Errorf("%s: %v next to an error", name, results)
		}
	}
	if results[last] != want {
		t.Errorf("%s: %v, want %d", name, results, want)
	}
}

// positionCalls are all calls that take a position.
func positionCalls(g game, p string) map[string][]any {
	return map[string][]any{
		"CheckPosition": all(switches.CheckPosition(g, p)), "Joined": all(switches.Joined(g, p)),
		"Wins, Cut to move,": all(switches.Wins(g, p, true)), "Wins, Short to move,": all(switches.Wins(g, p, false)),
		"Best, Cut to move,": all(switches.Best(g, p, true)), "Best, Short to move,": all(switches.Best(g, p, false)),
	}
}

// wireCalls are all calls that take the index of a wire.
func wireCalls(g game, l [2][]int, wire int) map[string][]any {
	return map[string][]any{"Reply": all(switches.Reply(g, l, wire)), "Shorter": all(switches.Shorter(g, wire)), "Without": all(switches.Without(g, wire))}
}

// otherCalls are all calls that take neither.
func otherCalls(g game, l [2][]int, lists [][]int) map[string][]any {
	return map[string][]any{
		"Check": all(switches.Check(g)), "Kind": all(switches.Kind(g)), "Trees": all(switches.Trees(g)), "IsTrees": all(switches.IsTrees(g, l)), "Spanning": all(switches.Spanning(g)),
		"Barrier": all(switches.Barrier(g)), "IsBarrier": all(switches.IsBarrier(g, lists)), "Count": all(switches.Count(g)),
	}
}

func TestCheck(t *testing.T) {
	for _, g := range slices.Concat(tiny(), mixed()) {
		if e := switches.Check(g); e != api.OK {
			t.Errorf("Check of %v: %d", g, e)
		}
	}
	for name, g := range known() {
		if e := switches.Check(g); e != api.OK {
			t.Errorf("Check of %s: %d", name, e)
		}
	}
}

// What is no game comes before all else that is wrong.
func TestNoGame(t *testing.T) {
	for _, g := range invalid() {
		text := fmt.Sprintf("%.80s", fmt.Sprint(g))
		for _, p := range []string{"", ".", strings.Repeat(".", len(g.Wires)), "x"} {
			for name, results := range positionCalls(g, p) {
				wantRefused(t, api.ErrGame, fmt.Sprintf("%s of %s, %.20q", name, text, p), results)
			}
		}
		for _, l := range [][2][]int{{}, {{0}, {1}}, {{-1}, {-1}}} {
			for _, wire := range []int{0, -1, len(g.Wires)} {
				for name, results := range wireCalls(g, l, wire) {
					wantRefused(t, api.ErrGame, fmt.Sprintf("%s of %s, %d", name, text, wire), results)
				}
			}
			for name, results := range otherCalls(g, l, [][]int{{0}, {1}}) {
				wantRefused(t, api.ErrGame, fmt.Sprint(name, " of ", text), results)
			}
		}
	}
}

// All lists of at most two wires in and around three places: they must not go down, and each must lead from a place to a greater one.
func TestCheckOfAll(t *testing.T) {
	var around [][2]int
	for i := -1; i <= 3; i++ {
		for k := -1; k <= 3; k++ {
			around = append(around, [2]int{i, k})
		}
	}
	valid := pairs(3)
	for _, a := range around {
		for _, b := range around {
			first, second := slices.Index(valid, a), slices.Index(valid, b)
			want := api.ErrGame
			if first >= 0 && second >= first {
				want = api.OK
			}
			if e := switches.Check(game{3, 0, 1, [][2]int{a, b}}); e != want {
				t.Errorf("Check of wires %v, %v: %d", a, b, e)
			}
			if e := switches.Check(game{3, a[0], a[1], [][2]int{{0, 1}}}); (e == api.OK) != (a[0] != a[1] && min(a[0], a[1]) >= 0 && max(a[0], a[1]) < 3) {
				t.Errorf("Check of ends %v: %d", a, e)
			}
		}
	}
}

// texts are all strings of so many of these characters.
func texts(characters string, number int) []string {
	list := []string{""}
	for range number {
		var longer []string
		for _, s := range list {
			for i := range len(characters) {
				longer = append(longer, s+characters[i:i+1])
			}
		}
		list = longer
	}
	return list
}

func TestPositions(t *testing.T) {
	for wires := range 4 {
		g := game{2, 0, 1, slices.Repeat([][2]int{{0, 1}}, wires)}
		for length := range 5 {
			for _, p := range texts(".+-x\x00\xc3", length) {
				want := api.OK
				if length != wires || strings.Trim(p, ".+-") != "" {
					want = api.ErrArg
				}
				if e := switches.CheckPosition(g, p); e != want {
					t.Errorf("CheckPosition of %q, %d wires: %d", p, wires, e)
				}
			}
		}
	}
	g := known()["series"]
	for _, p := range []string{"", ".", "...", "é", "−", ". ", " .", "x.", ".x", "._", "+*", "\x00.", ".\xff", "\xff\xfe", "++++", "-\n", ".,", "．", "+\u2212", strings.Repeat(".", 100000), strings.Repeat("+", 258)} {
		for name, results := range positionCalls(g, p) {
			wantRefused(t, api.ErrArg, fmt.Sprintf("%s of %.20q", name, p), results)
		}
	}
	for name, results := range positionCalls(known()["ten"], ".........é") {
		wantRefused(t, api.ErrArg, name, results)
	}
}

func TestNoWire(t *testing.T) {
	for _, name := range []string{"none", "thick", "long"} {
		g := known()[name]
		l, _, _ := switches.Trees(g)
		for _, wire := range []int{-1, len(g.Wires), len(g.Wires) + 1, 64, 1 << 32, 256, math.MaxInt, math.MinInt} {
			for call, results := range wireCalls(g, l, wire) {
				wantRefused(t, api.ErrArg, fmt.Sprint(call, " of ", name, wire), results)
			}
		}
	}
}

// Arguments are not changed, and what is done to a result shows in no argument and in no other result.
func TestMemory(t *testing.T) {
	long := append(slices.Clone(known()["five"].Wires)[:9], [2]int{-5, -5})
	g := game{5, 0, 4, long[:9]}
	l, _, _ := switches.Trees(g)
	lists := [][]int{{0}, {1, 2, 3}, {4}}
	before := fmt.Sprint(g, l, lists, long)
	calls := func() string {
		trees, _, _ := switches.Trees(g)
		spanning, _, _ := switches.Spanning(g)
		barrier, _, _ := switches.Barrier(game{5, 0, 4, long[:7]})
		less, _ := switches.Without(g, 3)
		less2, _ := switches.Without(g, 8)
		short, _ := switches.Shorter(g, 3)
		wire, _, _ := switches.Reply(g, l, l[0][0])
		kind, _ := switches.Kind(g)
		is, _ := switches.IsTrees(g, l)
		wall, _ := switches.IsBarrier(g, lists)
		number, _ := switches.Count(g)
		out := fmt.Sprint(trees, spanning, barrier, less, less2, short, wire, kind, is, wall, number)
		for _, list := range append([][]int{trees[0], trees[1], spanning[0], spanning[1]}, barrier...) {
			for i := range list[:cap(list)] {
				list[:cap(list)][i] = -9
			}
		}
		for _, list := range [][][2]int{less.Wires, less2.Wires, short.Wires} {
			clear(list[:cap(list)])
		}
		return out
	}
	first := calls()
	if second := calls(); second != first {
		t.Errorf("%s, then %s", first, second)
	}
	if after := fmt.Sprint(g, l, lists, long); after != before {
		t.Errorf("the arguments were %s, then %s", before, after)
	}
}

// Lists of one result share no memory.
func TestMemoryOfLists(t *testing.T) {
	g := known()["long"]
	trees, _, _ := switches.Trees(g)
	spanning, _, _ := switches.Spanning(g)
	barrier, _, _ := switches.Barrier(known()["seven"])
	for _, lists := range [][][]int{trees[:], spanning[:], barrier} {
		want := fmt.Sprint(lists[1:])
		for range 10 {
			lists[0] = append(lists[0], -9)
		}
		clear(lists[0])
		if got := fmt.Sprint(lists[1:]); got != want || len(lists) < 2 {
			t.Errorf("%s, then %s", want, got)
		}
	}
}
