package price

import (
	"iter"
	"slices"

	"bibelot/api"
)

// rows has for each observation a set of observations.
type rows [maxSeen]set

// taste has for each observation those to which it is preferred, strictly or not, and those to which it is strictly.
type taste struct {
	preferred, strictly rows
}

// weakTaste is the weak taste of a share.
func (m market) weakTaste(share ratio) taste {
	var t taste
	for i := range m.n {
		for k := range m.n {
			order := m.toOwn(i, k).compare(share)
			if order <= 0 {
				t.preferred[i] |= setOf(k)
			}
			if order < 0 {
				t.strictly[i] |= setOf(k)
			}
		}
	}
	return t
}

// taste is the preferences as they were seen: the weak taste of the share 1.
func (m market) taste() taste {
	return m.weakTaste(ratio{over: 1, under: 1})
}

// Prefers returns the table of how i is preferred to k: 0 is not, 1 not strictly, 2 strictly.
func Prefers(l []Seen) ([][]int, api.Errno) {
	m, e := marketOf(l)
	if e != api.OK {
		return nil, e
	}
	t := m.taste()
	return m.table(func(i, k int) int {
		switch {
		case t.strictly[i].has(k):
			return 2
		case t.preferred[i].has(k):
			return 1
		}
		return 0
	}), api.OK
}

// way returns as few observations as possible from start to end, each preferred to the next one, or none if there is no way.
func (t taste) way(start, end int) []int {
	from := map[int]int{start: start}
	reached := []int{start}
search:
	for at := 0; at < len(reached); at++ {
		for next := range t.preferred[reached[at]].members {
			if _, known := from[next]; known {
				continue
			}
			from[next] = reached[at]
			if next == end {
				break search
			}
			reached = append(reached, next)
		}
	}
	if _, known := from[end]; !known {
		return nil
	}
	return followBack(from, start, end)
}

// followBack lists the way to end on which each observation was reached from the one before it.
func followBack(from map[int]int, start, end int) []int {
	way := []int{end}
	for at := end; at != start; {
		at = from[at]
		way = append(way, at)
	}
	slices.Reverse(way)
	return way
}

// ring returns a ring, or none if there is no ring.
func (t taste) ring() []int {
	for i, row := range t.strictly {
		for k := range row.members {
			// As no observation is strictly preferred to itself, the way has two of them, and the strict preference closes it.
			if way := t.way(k, i); way != nil {
				return way
			}
		}
	}
	return nil
}

// around yields each index of a ring with the next one, the last one with the first.
func around(ring []int) iter.Seq2[int, int] {
	return func(yield func(int, int) bool) {
		for at, i := range ring {
			if !yield(i, ring[(at+1)%len(ring)]) {
				return
			}
		}
	}
}

func (m market) isRing(list []int) bool {
	var met set
	for _, i := range list {
		if !m.has(i) || met.has(i) {
			return false
		}
		met |= setOf(i)
	}
	t := m.taste()
	// A list of one index needs no test of its own: it never is strictly preferred to itself.
	strictly := false
	for i, k := range around(list) {
		if !t.preferred[i].has(k) {
			return false
		}
		strictly = strictly || t.strictly[i].has(k)
	}
	return strictly
}

// Ring returns a ring, if there is one.
func Ring(l []Seen) ([]int, bool, api.Errno) {
	m, e := marketOf(l)
	if e != api.OK {
		return nil, false, e
	}
	ring := m.taste().ring()
	return ring, ring != nil, api.OK
}

// IsRing tells whether ring is a ring.
func IsRing(l []Seen, ring []int) (bool, api.Errno) {
	m, e := marketOf(l)
	if e != api.OK {
		return false, e
	}
	return m.isRing(ring), api.OK
}

// Waste returns by how much cheaper the next bundles of a ring were, in all.
func Waste(l []Seen, ring []int) (int, api.Errno) {
	m, e := marketOf(l)
	if e != api.OK {
		return 0, e
	}
	if !m.isRing(ring) {
		return 0, api.ErrArg
	}
	var losses []int
	for i, k := range around(ring) {
		losses = append(losses, m.costs[i][i]-m.costs[i][k])
	}
	return sum(losses...), api.OK
}

// better returns 1 if i is preferred to k, directly or through others, and k not to i, -1 the other way round, 2 if both, 0 if neither.
func (t taste) better(i, k int) int {
	forth, back := t.way(i, k) != nil, t.way(k, i) != nil
	switch {
	case forth && back:
		return 2
	case forth:
		return 1
	case back:
		return -1
	}
	return 0
}

// Better returns 1 if i is preferred to k, directly or through others, and k not to i, -1 the other way round, 2 if both, 0 if neither.
func Better(l []Seen, i, k int) (int, api.Errno) {
	m, e := marketOf(l, i, k)
	if e != api.OK {
		return 0, e
	}
	return m.taste().better(i, k), api.OK
}
