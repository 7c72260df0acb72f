package switches

import (
	"slices"

	"bibelot/api"
)

// Without returns the game without a wire.
func Without(g Game, wire int) (Game, api.Errno) {
	if e := checkWire(g, wire); e != api.OK {
		return Game{}, e
	}
	smaller := g
	smaller.Wires = slices.Delete(slices.Clone(g.Wires), wire, wire+1)
	return smaller, api.OK
}

// Shorter returns the game in which both places of a wire have become one.
func Shorter(g Game, wire int) (Game, api.Errno) {
	if e := checkWire(g, wire); e != api.OK {
		return Game{}, e
	}
	lesser, greater := g.Wires[wire][0], g.Wires[wire][1]
	become := func(place int) int {
		if place == greater {
			return lesser
		}
		if place > greater {
			return place - 1
		}
		return place
	}
	smaller := Game{N: g.N - 1, S: become(g.S), T: become(g.T)}
	if smaller.S == smaller.T {
		return Game{}, api.ErrArg
	}
	for _, w := range g.Wires {
		i, k := become(w[0]), become(w[1])
		if i != k {
			smaller.Wires = append(smaller.Wires, [2]int{min(i, k), max(i, k)})
		}
	}
	slices.SortStableFunc(smaller.Wires, compare)
	return smaller, api.OK
}
