package switches_test

import (
	"fmt"
	"slices"
	"testing"

	"bibelot/api"
	"bibelot/switches"
)

// without follows the definition.
func without(g game, wire int) game {
	smaller := game{N: g.N, S: g.S, T: g.T}
	for index, w := range g.Wires {
		if index != wire {
			smaller.Wires = append(smaller.Wires, w)
		}
	}
	return smaller
}

// shorter follows the definition: what is left of the places, in their order, gives them their numbers.
func shorter(g game, wire int) game {
	lesser, greater := g.Wires[wire][0], g.Wires[wire][1]
	left := slices.DeleteFunc(everywhere(g), func(place int) bool {
		return place == greater
	})
	number := func(place int) int {
		if place == greater {
			place = lesser
		}
		return slices.Index(left, place)
	}
	smaller := game{N: len(left), S: number(g.S), T: number(g.T)}
	for _, w := range g.Wires {
		ends := []int{number(w[0]), number(w[1])}
		slices.Sort(ends)
		if ends[0] != ends[1] {
			smaller.Wires = append(smaller.Wires, [2]int(ends))
		}
	}
	slices.SortFunc(smaller.Wires, byOrder)
	return smaller
}

func joinsEnds(g game, wire int) bool {
	return slices.Contains(g.Wires[wire][:], g.S) && slices.Contains(g.Wires[wire][:], g.T)
}

// checkSmaller wants both smaller games, and as many trees in both together as in the game (P8.8).
func checkSmaller(t *testing.T, g game, wire int) {
	t.Helper()
	less, e := switches.Without(g, wire)
	if fmt.Sprint(less) != fmt.Sprint(without(g, wire)) || e != api.OK || switches.Check(less) != api.OK {
		t.Errorf("Without of %v, %d: %v, %d", g, wire, less, e)
	}
	short, e := switches.Shorter(g, wire)
	if joinsEnds(g, wire) {
		wantRefused(t, api.ErrArg, fmt.Sprintf("Shorter of %v, %d", g, wire), all(short, e))
		return
	}
	if fmt.Sprint(short) != fmt.Sprint(shorter(g, wire)) || e != api.OK || switches.Check(short) != api.OK {
		t.Errorf("Shorter of %v, %d: %v, %d", g, wire, short, e)
	}
	number, _ := switches.Count(g)
	first, _ := switches.Count(less)
	second, _ := switches.Count(short)
	if number != first+second {
		t.Errorf("Count of %v: %d, of what is smaller by wire %d: %d, %d", g, number, wire, first, second)
	}
}

func TestSmaller(t *testing.T) {
	games := slices.Concat(tiny(), mixed())
	for _, g := range known() {
		games = append(games, g)
	}
	for _, g := range games {
		for wire := range g.Wires {
			checkSmaller(t, g, wire)
		}
	}
}

func TestSmallerKnown(t *testing.T) {
	house := game{5, 4, 1, [][2]int{{0, 2}, {0, 3}, {1, 3}, {1, 3}, {2, 3}, {2, 4}, {3, 4}}}
	for _, x := range []struct {
		results []any
		want    string
	}{
		{all(switches.Without(known()["one"], 0)), "[{2 0 1 []} 0]"},
		{all(switches.Without(known()["double"], 1)), "[{2 1 0 [[0 1]]} 0]"},
		{all(switches.Without(house, 0)), "[{5 4 1 [[0 3] [1 3] [1 3] [2 3] [2 4] [3 4]]} 0]"},
		{all(switches.Without(house, 6)), "[{5 4 1 [[0 2] [0 3] [1 3] [1 3] [2 3] [2 4]]} 0]"},
		{all(switches.Shorter(known()["one"], 0)), "[{0 0 0 []} 1]"},
		{all(switches.Shorter(known()["double"], 0)), "[{0 0 0 []} 1]"},
		{all(switches.Shorter(known()["ring"], 0)), "[{0 0 0 []} 1]"},
		{all(switches.Shorter(known()["ring"], 1)), "[{2 0 1 [[0 1] [0 1]]} 0]"},
		{all(switches.Shorter(known()["ring"], 2)), "[{2 0 1 [[0 1] [0 1]]} 0]"},
		{all(switches.Shorter(known()["thick"], 0)), "[{2 0 1 [[0 1] [0 1]]} 0]"}, // the other wire between both places is left out
		{all(switches.Shorter(known()["thick"], 3)), "[{2 0 1 [[0 1] [0 1]]} 0]"},
		{all(switches.Shorter(house, 0)), "[{4 3 1 [[0 2] [0 2] [0 3] [1 2] [1 2] [2 3]]} 0]"},
		{all(switches.Shorter(house, 1)), "[{4 3 1 [[0 1] [0 1] [0 2] [0 2] [0 3] [2 3]]} 0]"}, // wires that turn round and go up in order
		{all(switches.Shorter(house, 6)), "[{4 3 1 [[0 2] [0 3] [1 3] [1 3] [2 3] [2 3]]} 0]"},
	} {
		if got := fmt.Sprint(x.results); got != x.want {
			t.Errorf("%s, want %s", got, x.want)
		}
	}
}

// A cut wire is one that is not there, a kept one joins its places.
func TestSmallerPlay(t *testing.T) {
	for _, g := range mixed() {
		start := string(slices.Repeat([]byte("."), len(g.Wires)))
		for wire := range g.Wires {
			for _, cutMoves := range []bool{false, true} {
				cut, _ := switches.Wins(g, replaced(start, wire, "-"), cutMoves)
				if less, _ := switches.Wins(without(g, wire), start[1:], cutMoves); cut != less {
					t.Errorf("%v, %d cut: %t, without it: %t", g, wire, cut, less)
				}
				if joinsEnds(g, wire) {
					continue
				}
				kept, _ := switches.Wins(g, replaced(start, wire, "+"), cutMoves)
				short, _ := switches.Shorter(g, wire)
				if less, _ := switches.Wins(short, start[:len(short.Wires)], cutMoves); kept != less {
					t.Errorf("%v, %d kept: %t, Shorter: %t", g, wire, kept, less)
				}
			}
		}
	}
}
