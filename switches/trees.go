package switches

import (
	"bibelot/api"
)

// pair is two sets of wires.
type pair [2]set

func (p pair) lists() [2][]int {
	return [2][]int{p[0].list(), p[1].list()}
}

// pairOf tells whether the lists are rising and have wires of the game only, and returns these as sets.
func (g Game) pairOf(lists [2][]int) (pair, bool) {
	var p pair
	for k, list := range lists {
		before := -1
		for _, index := range list {
			if index <= before || index >= len(g.Wires) {
				return pair{}, false
			}
			p[k] |= setOf(index)
			before = index
		}
	}
	return p, true
}

// touched is the set of the places at which some wires end.
func (g Game) touched(wires set) set {
	var places set
	for index := range wires.members {
		places |= setOf(g.Wires[index][:]...)
	}
	return places
}

// within is the set of the wires whose ends are both among some places.
func (g Game) within(places set) set {
	return g.where(g.wires(), func(wire [2]int) bool {
		return places.includes(setOf(wire[:]...))
	})
}

// isTree tells whether these wires are a tree on just these places.
func (g Game) isTree(wires, places set) bool {
	if wires.size() != places.size()-1 || !places.includes(g.touched(wires)) {
		return false
	}
	grown, _ := g.forest(wires)
	return grown == wires
}

// areTrees tells whether these are two trees, and returns their places, too.
func (g Game) areTrees(p pair) (set, bool) {
	places := g.touched(p[0])
	is := p[0]&p[1] == 0 && places.includes(setOf(g.S, g.T)) && g.isTree(p[0], places) && g.isTree(p[1], places)
	return places, is
}

// trees finds two sets of wires without a common one that are trees on the same places, some of which are given.
func (g Game) trees(given set) (pair, bool) {
	var found pair
search:
	for places := range g.places().subsets {
		if !places.includes(given) {
			continue
		}
		wires := g.within(places)
		for first := range wires.subsets {
			if !g.isTree(first, places) {
				continue
			}
			second, _ := g.forest(wires &^ first)
			if g.isTree(second, places) {
				found = pair{first, second}
				break search
			}
		}
	}
	return found, found != pair{}
}

// Trees returns two trees, if there are any.
func Trees(g Game) ([2][]int, bool, api.Errno) {
	if e := Check(g); e != api.OK {
		return [2][]int{}, false, e
	}
	found, is := g.trees(setOf(g.S, g.T))
	return found.lists(), is, api.OK
}

// IsTrees tells whether these are two trees.
func IsTrees(g Game, l [2][]int) (bool, api.Errno) {
	if e := Check(g); e != api.OK {
		return false, e
	}
	p, is := g.pairOf(l)
	if is {
		_, is = g.areTrees(p)
	}
	return is, api.OK
}

// Reply returns, when Cut takes a wire of one of two trees, a wire of the other one that mends it.
func Reply(g Game, l [2][]int, cut int) (int, bool, api.Errno) {
	if e := checkWire(g, cut); e != api.OK {
		return 0, false, e
	}
	p, are := g.pairOf(l)
	if !are {
		return 0, false, api.ErrArg
	}
	places, are := g.areTrees(p)
	if !are {
		return 0, false, api.ErrArg
	}
	broken, other := p[0], p[1]
	if other.has(cut) {
		broken, other = other, broken
	}
	if broken.has(cut) {
		for wire := range other.members {
			if g.isTree(broken&^setOf(cut)|setOf(wire), places) {
				return wire, true, api.OK
			}
		}
	}
	return 0, false, api.OK
}

// Spanning returns two lists of wires without a common one that are trees on all places, if there are any.
func Spanning(g Game) ([2][]int, bool, api.Errno) {
	if e := Check(g); e != api.OK {
		return [2][]int{}, false, e
	}
	found, is := g.trees(g.places())
	return found.lists(), is, api.OK
}

// Count returns the number of lists of wires that are trees on all places.
func Count(g Game) (int64, api.Errno) {
	if e := Check(g); e != api.OK {
		return 0, e
	}
	count := int64(0)
	for wires := range g.wires().subsets {
		if g.isTree(wires, g.places()) {
			count++
		}
	}
	return count, api.OK
}
