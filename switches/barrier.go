package switches

import (
	"slices"

	"bibelot/api"
)

// isBarrier tells whether fewer wires than two trees need lead from part to part.
func (g Game) isBarrier(p parts, number int) bool {
	between := g.where(g.wires(), p.separates)
	return number >= 2 && between.size() < 2*(number-1)
}

// partsOf tells whether each place is in just one list, and all is in order, and returns the parts that the lists are.
func (g Game) partsOf(lists [][]int) (parts, bool) {
	var p parts
	var seen set
	for name, list := range lists {
		if len(list) == 0 {
			return parts{}, false
		}
		before := -1
		for _, place := range list {
			if place <= before || place >= g.N || seen.has(place) {
				return parts{}, false
			}
			seen |= setOf(place)
			p[place] = name
			before = place
		}
	}
	return p, seen == g.places() && slices.IsSortedFunc(lists, slices.Compare)
}

// listed returns the places of each part.
func (g Game) listed(p parts, number int) [][]int {
	lists := make([][]int, number)
	for place := range g.N {
		name := p[place]
		lists[name] = append(lists[name], place)
	}
	return lists
}

// Barrier returns a barrier, if there is one.
func Barrier(g Game) ([][]int, bool, api.Errno) {
	if e := Check(g); e != api.OK {
		return nil, false, e
	}
	for p, number := range partings(g.N) {
		if g.isBarrier(p, number) {
			return g.listed(p, number), true, api.OK
		}
	}
	return nil, false, api.OK
}

// IsBarrier tells whether these lists are a barrier.
func IsBarrier(g Game, l [][]int) (bool, api.Errno) {
	if e := Check(g); e != api.OK {
		return false, e
	}
	p, is := g.partsOf(l)
	return is && g.isBarrier(p, len(l)), api.OK
}
