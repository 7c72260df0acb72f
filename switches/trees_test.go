package switches_test

import (
	"fmt"
	"math"
	"slices"
	"testing"

	"bibelot/api"
	"bibelot/switches"
)

// members are the bits of a number.
func members(set int) []int {
	var list []int
	for i := range 10 {
		if set>>i&1 == 1 {
			list = append(list, i)
		}
	}
	return list
}

// joins tells whether these wires join just these places, at least one, and no others.
func joins(g game, wires, places []int) bool {
	for _, index := range wires {
		if !slices.Contains(places, g.Wires[index][0]) || !slices.Contains(places, g.Wires[index][1]) {
			return false
		}
	}
	return len(reached(g, wires, places[0])) == len(places)
}

// isTree tells whether these wires join just these places and would not without any one of them.
func isTree(g game, wires, places []int) bool {
	for i := range wires {
		if joins(g, slices.Delete(slices.Clone(wires), i, i+1), places) {
			return false
		}
	}
	return joins(g, wires, places)
}

// treePlaces returns the places with both ends on which both lists are trees.
func treePlaces(g game, l [2][]int) ([]int, bool) {
	for set := range 1 << g.N {
		places := members(set)
		if slices.Contains(places, g.S) && slices.Contains(places, g.T) && isTree(g, l[0], places) && isTree(g, l[1], places) {
			return places, true
		}
	}
	return nil, false
}

// isPair tells whether these are rising lists of wires, without a common one.
func isPair(g game, l [2][]int) bool {
	var both []int
	for _, list := range l {
		for i, index := range list {
			if index < 0 || index >= len(g.Wires) || i > 0 && index <= list[i-1] {
				return false
			}
		}
		both = append(both, list...)
	}
	slices.Sort(both)
	return len(slices.Compact(slices.Clone(both))) == len(both)
}

// isTrees follows the definition.
func isTrees(g game, l [2][]int) bool {
	if !isPair(g, l) {
		return false
	}
	_, is := treePlaces(g, l)
	return is
}

// everywhere are all places.
func everywhere(g game) []int {
	return members(1<<g.N - 1)
}

func isSpanning(g game, l [2][]int) bool {
	return isPair(g, l) && isTree(g, l[0], everywhere(g)) && isTree(g, l[1], everywhere(g))
}

// all pairs of lists of wires: those that are two trees, and whether some are on all places.
func tried(g game) (trees [][2][]int, spanning bool) {
	full := 1 << len(g.Wires)
	for a := range full {
		for b := range full {
			l := [2][]int{members(a), members(b)}
			if a&b == 0 && isTrees(g, l) {
				trees = append(trees, l)
				spanning = spanning || isSpanning(g, l)
			}
		}
	}
	return trees, spanning
}

func checkTrees(t *testing.T, g game, want bool) {
	t.Helper()
	l, is, e := switches.Trees(g)
	if is != want || is && !isTrees(g, l) || !is && len(l[0])+len(l[1]) > 0 || e != api.OK {
		t.Errorf("Trees of %v: %v, %t, %d", g, l, is, e)
	}
	if of, e := switches.IsTrees(g, l); of != want || e != api.OK {
		t.Errorf("IsTrees of %v, %v: %t, %d", g, l, of, e)
	}
}

func checkSpanning(t *testing.T, g game, want bool) {
	t.Helper()
	l, is, e := switches.Spanning(g)
	if is != want || is && !isSpanning(g, l) || !is && len(l[0])+len(l[1]) > 0 || e != api.OK {
		t.Errorf("Spanning of %v: %v, %t, %d", g, l, is, e)
	}
}

func TestTreesOfAll(t *testing.T) {
	for i, g := range tiny() {
		if len(g.Wires) == 5 && i%5 > 0 {
			continue
		}
		trees, spanning := tried(g)
		checkTrees(t, g, len(trees) > 0)
		checkSpanning(t, g, spanning)
		full := 1 << len(g.Wires)
		for a := range full {
			for b := range full {
				l := [2][]int{members(a), members(b)}
				want := slices.ContainsFunc(trees, func(other [2][]int) bool {
					return fmt.Sprint(other) == fmt.Sprint(l)
				})
				if is, e := switches.IsTrees(g, l); is != want || e != api.OK {
					t.Errorf("IsTrees of %v, %v: %t, %d", g, l, is, e)
				}
			}
		}
		for _, l := range trees {
			checkReplies(t, g, l)
		}
	}
}

// P8.6.
func TestLehman(t *testing.T) {
	for _, g := range slices.Concat(tiny(), mixed()) {
		kind, _ := switches.Kind(g)
		checkTrees(t, g, kind == "short")
	}
	for _, g := range known() {
		kind, _ := switches.Kind(g)
		checkTrees(t, g, kind == "short")
	}
}

func TestTreesKnown(t *testing.T) {
	for name, want := range map[string][2]bool{"none": {}, "one": {}, "double": {true, true}, "ten": {true, true}, "series": {}, "thick": {true, true}, "ring": {}, "bridge": {}, "four": {true, true}, "aside": {true, false}, "five": {true, true}, "long": {true, true}, "seven": {}} {
		checkTrees(t, known()[name], want[0])
		checkSpanning(t, known()[name], want[1])
	}
	if l, _, _ := switches.Trees(known()["aside"]); fmt.Sprint(l) != "[[1] [2]]" && fmt.Sprint(l) != "[[2] [1]]" {
		t.Errorf("Trees of aside: %v", l)
	}
}

// changed are pairs of lists that come of two trees by small changes.
func changed(l [2][]int) [][2][]int {
	pairs := [][2][]int{l, {l[1], l[0]}, {l[0], l[0]}, {l[1], l[1]}, {l[0], nil}, {nil, l[1]}, {}}
	for k := range l {
		change := func(list []int) {
			other := l
			other[k] = list
			pairs = append(pairs, other)
		}
		turned := slices.Clone(l[k])
		slices.Reverse(turned)
		change(turned)
		change(slices.Concat(l[k], l[k]))
		change(slices.Repeat(l[k], 10000))
		for i, index := range l[k] {
			change(slices.Delete(slices.Clone(l[k]), i, i+1))
			change(slices.Insert(slices.Clone(l[k]), i, index))
			for _, to := range []int{-1, index + 1, index - 1, 10, index + 16, index + 64, index + 1<<32, index - 16, math.MaxInt, math.MinInt, l[1-k][0]} {
				list := slices.Clone(l[k])
				list[i] = to
				change(list)
			}
		}
		for _, more := range []int{-1, 0, 1, 2, 3, 4, 5, 6, 7, 8, 9, 10, 16, 64, math.MaxInt, math.MinInt} {
			list := append(slices.Clone(l[k]), more)
			change(list)
			change(slices.Sorted(slices.Values(list)))
		}
	}
	return pairs
}

func TestIsTrees(t *testing.T) {
	games := append(mixed(), known()["thick"], known()["four"], known()["five"], known()["long"], known()["aside"])
	for i, g := range games {
		l, is, _ := switches.Trees(g)
		if !is || i%3 > 0 && i < len(games)-5 {
			continue
		}
		for _, other := range changed(l) {
			if is, e := switches.IsTrees(g, other); is != isTrees(g, other) || e != api.OK {
				t.Errorf("IsTrees of %v, %.80s: %t, %d", g, fmt.Sprint(other), is, e)
			}
			if !isTrees(g, other) {
				wantRefused(t, api.ErrArg, fmt.Sprintf("Reply of %v, %.80s", g, fmt.Sprint(other)), all(switches.Reply(g, other, 0)))
			}
		}
	}
	for _, x := range []struct {
		name string
		l    [2][]int
		want bool
	}{
		{"one", [2][]int{{0}, {0}}, false}, {"one", [2][]int{{0}, nil}, false}, {"none", [2][]int{}, false}, {"double", [2][]int{{0}, {1}}, true}, {"double", [2][]int{{1}, {0}}, true}, {"double", [2][]int{{0}, {0}}, false},
		{"ring", [2][]int{{0}, {1, 2}}, false}, // trees, but not on the same places
		{"aside", [2][]int{{0}, {3}}, false}, {"aside", [2][]int{{0, 1}, {2, 3}}, false}, {"aside", [2][]int{{2}, {1}}, true},
		{"thick", [2][]int{{0, 2}, {1, 3}}, true}, {"thick", [2][]int{{0}, {1}}, false}, {"thick", [2][]int{{2}, {3}}, false}, {"thick", [2][]int{{0, 1}, {2, 3}}, false},
		{"four", [2][]int{{0, 1, 4}, {2, 3, 5}}, true}, {"four", [2][]int{{0, 1, 3}, {2, 4, 5}}, false}, {"four", [2][]int{{0, 4, 5}, {1, 2, 3}}, true},
	} {
		if is, e := switches.IsTrees(known()[x.name], x.l); is != x.want || e != api.OK {
			t.Errorf("IsTrees of %s, %v: %t, %d", x.name, x.l, is, e)
		}
	}
}

// checkReplies wants to each cut of two trees a wire that mends it.
func checkReplies(t *testing.T, g game, l [2][]int) {
	t.Helper()
	places, _ := treePlaces(g, l)
	for cut := range g.Wires {
		wire, is, e := switches.Reply(g, l, cut)
		own := slices.IndexFunc(l[:], func(list []int) bool {
			return slices.Contains(list, cut)
		})
		if own < 0 {
			wantRefused(t, api.OK, fmt.Sprintf("Reply of %v, %v to %d", g, l, cut), all(wire, is, e))
			continue
		}
		mended := append(slices.Clone(l[own]), wire)
		mended = slices.DeleteFunc(mended, func(index int) bool {
			return index == cut
		})
		if !is || e != api.OK || !slices.Contains(l[1-own], wire) || !isTree(g, mended, places) {
			t.Errorf("Reply of %v, %v to %d: %d, %t, %d", g, l, cut, wire, is, e)
		}
	}
}

func TestReply(t *testing.T) {
	for _, g := range slices.Concat(mixed(), []game{known()["five"], known()["long"], known()["aside"], known()["ten"]}) {
		if l, is, _ := switches.Trees(g); is {
			checkReplies(t, g, l)
			checkReplies(t, g, [2][]int{l[1], l[0]})
		}
	}
}

// W5: Short replies to each cut by two trees of what is left, and has joined the ends in the end.
func TestRepliesWin(t *testing.T) {
	pick := numbers(9)
	for _, g := range mixed() {
		for range 3 {
			if kind, _ := switches.Kind(g); kind == "short" && !repliesWin(t, g, pick) {
				t.Errorf("%v: Short has not won", g)
			}
		}
	}
}

func repliesWin(t *testing.T, g game, pick func(int) int) bool {
	t.Helper()
	for len(g.Wires) > 0 {
		l, are, _ := switches.Trees(g)
		cut := pick(len(g.Wires))
		wire, is, e := switches.Reply(g, l, cut)
		if !are || e != api.OK {
			t.Errorf("%v: no reply to %d: %d", g, cut, e)
			return false
		}
		left, _ := switches.Without(g, cut)
		if is && wire > cut {
			wire--
		}
		if is {
			shorter, e := switches.Shorter(left, wire)
			if e != api.OK { // the wire joins the ends
				return left.Wires[wire] == [2]int{min(left.S, left.T), max(left.S, left.T)}
			}
			left = shorter
		}
		g = left
	}
	return false
}

// minor leaves out the first row and a column.
func minor(square [][]int, column int) [][]int {
	var rows [][]int
	for _, row := range square[1:] {
		rows = append(rows, slices.Delete(slices.Clone(row), column, column+1))
	}
	return rows
}

func determinant(square [][]int) int {
	if len(square) == 0 {
		return 1
	}
	sum, sign := 0, 1
	for column, x := range square[0] {
		if x != 0 {
			sum += sign * x * determinant(minor(square, column))
		}
		sign = -sign
	}
	return sum
}

// kirchhoff counts the trees on all places by a determinant.
func kirchhoff(g game) int64 {
	square := make([][]int, g.N)
	for i := range square {
		square[i] = make([]int, g.N)
	}
	for _, wire := range g.Wires {
		i, k := wire[0], wire[1]
		square[i][i]++
		square[k][k]++
		square[i][k]--
		square[k][i]--
	}
	return int64(determinant(minor(square, 0)))
}

func TestCount(t *testing.T) {
	for _, g := range slices.Concat(tiny(), mixed()) {
		if number, e := switches.Count(g); number != kirchhoff(g) || e != api.OK {
			t.Errorf("Count of %v: %d, %d, want %d", g, number, e, kirchhoff(g))
		}
	}
	for name, want := range map[string]int64{"none": 0, "one": 1, "double": 2, "ten": 10, "series": 1, "thick": 4, "ring": 3, "bridge": 8, "four": 16, "aside": 0, "five": 125, "long": 32, "seven": 1} {
		if number, e := switches.Count(known()[name]); number != want || e != api.OK {
			t.Errorf("Count of %s: %d, %d", name, number, e)
		}
	}
}
