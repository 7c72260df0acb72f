package light

import (
	"cmp"
	"iter"
	"math/bits"
	"slices"

	"bibelot/api"
)

// row is a set of pressed lamps in its lower half and, in its upper half, lamps that they switch. A lamp pressed has its effect there; a target without the effect of some lamps has what is left of it.
type row uint32

func rowOf(pressed, switched int) row {
	return row(switched<<maxLamps | pressed)
}

func (r row) pressed() int {
	return int(r & (1<<maxLamps - 1))
}

func (r row) switched() int {
	return int(r >> maxLamps)
}

// found is the set that a search came upon; the zero value says that there is none.
type found struct {
	is  bool
	set int
}

// reduction returns what reduces a row by the rows of the lamps, until nothing is switched in it or none of them has its greatest switched lamp, and the quiet basis.
//
// Each lamp's row is reduced by those of lamps before it. If nothing is left switched, the lamps pressed in it are quiet, and the greatest of them is that lamp, which is in no other quiet set of the list, as its row reduces no other one: so the list is the quiet basis.
func (g graph) reduction() (reduce func(row) row, quiet []int) {
	var rows [maxLamps]row // by their greatest switched lamp
	reduce = func(r row) row {
		for r.switched() != 0 {
			other := rows[greatest(r.switched())]
			if other == 0 {
				break
			}
			r ^= other
		}
		return r
	}
	for lamp := range g.n {
		r := reduce(rowOf(1<<lamp, g.switched[lamp]))
		if r.switched() == 0 {
			quiet = append(quiet, r.pressed())
		} else {
			rows[greatest(r.switched())] = r
		}
	}
	return reduce, quiet
}

func greatest(set int) int {
	return bits.Len(uint(set)) - 1
}

// solve returns a set whose effect is the target, if there is one, and the quiet basis.
func (g graph) solve(target int) (found, []int) {
	reduce, quiet := g.reduction()
	r := reduce(rowOf(0, target))
	if r.switched() != 0 {
		return found{}, quiet
	}
	return found{true, r.pressed()}, quiet
}

// Solve returns a set whose effect is the target, if there is one.
func Solve(n int, edges [][2]int, own bool, target int) (int, bool, api.Errno) {
	if e := check(n, edges, target); e != api.OK {
		return 0, false, e
	}
	solution, _ := graphOf(n, edges, own).solve(target)
	return solution.set, solution.is, api.OK
}

// Fewest returns, of the sets whose effect is the target, the least one of those with the fewest lamps, if there is one.
func Fewest(n int, edges [][2]int, own bool, target int) (int, bool, api.Errno) {
	if e := check(n, edges, target); e != api.OK {
		return 0, false, e
	}
	solution, quiet := graphOf(n, edges, own).solve(target)
	if solution == (found{}) {
		return 0, false, api.OK
	}
	return fewest(solution.set, quiet...), true, api.OK
}

// fewest returns, of the sets that come of this one by some of the quiet ones, the least one of those with the fewest lamps.
func fewest(set int, quiet ...int) int {
	best := set
	for chosen := range within(1<<len(quiet) - 1) {
		other := set ^ combined(chosen, quiet...)
		if cmp.Or(cmp.Compare(size(other), size(best)), cmp.Compare(other, best)) < 0 {
			best = other
		}
	}
	return best
}

func size(set int) int {
	return bits.OnesCount(uint(set))
}

// within yields the sets within a set, rising.
func within(set int) iter.Seq[int] {
	return func(yield func(int) bool) {
		// Taking the set away carries through all places outside of it, so it counts up in those inside.
		for part := 0; yield(part) && part != set; {
			part = (part - set) & set
		}
	}
}

// Quiet returns the quiet basis.
func Quiet(n int, edges [][2]int, own bool) ([]int, api.Errno) {
	if e := check(n, edges); e != api.OK {
		return nil, e
	}
	_, quiet := graphOf(n, edges, own).reduction()
	return quiet, api.OK
}

// Refute returns a refutation of the target, if there is one.
func Refute(n int, edges [][2]int, own bool, target int) (int, bool, api.Errno) {
	if e := check(n, edges, target); e != api.OK {
		return 0, false, e
	}
	refutation := graphOf(n, edges, own).refute(target)
	return refutation.set, refutation.is, api.OK
}

// refute looks in the quiet basis only: if all of its sets have an even number of lamps in common with the target, so have all quiet sets, which come of them.
func (g graph) refute(target int) found {
	_, quiet := g.reduction()
	for _, set := range quiet {
		if isOdd(set & target) {
			return found{true, set}
		}
	}
	return found{}
}

func isOdd(set int) bool {
	return size(set)%2 == 1
}

// IsRefutation tells whether a set is quiet and has an odd number of lamps in common with the target.
func IsRefutation(n int, edges [][2]int, own bool, target, quiet int) (bool, api.Errno) {
	if e := check(n, edges, target, quiet); e != api.OK {
		return false, e
	}
	return graphOf(n, edges, own).effect(quiet) == 0 && isOdd(quiet&target), api.OK
}

// Reachable returns how many targets are the effect of some set.
func Reachable(n int, edges [][2]int, own bool) (int, api.Errno) {
	if e := check(n, edges); e != api.OK {
		return 0, e
	}
	return graphOf(n, edges, own).reachable(), api.OK
}

// reachable: as many sets as there are quiet ones have the same effect.
func (g graph) reachable() int {
	_, quiet := g.reduction()
	return 1 << (g.n - len(quiet))
}

// Hardest returns the least one of the targets for which Fewest has the most lamps, and how many.
func Hardest(n int, edges [][2]int, own bool) (int, int, api.Errno) {
	if e := check(n, edges); e != api.OK {
		return 0, 0, e
	}
	target, lamps := graphOf(n, edges, own).hardest()
	return target, lamps, api.OK
}

// hardest presses lamps one by one, from no lamp on, so that each target comes first by the fewest lamps; the search ends with the last one that can be reached.
func (g graph) hardest() (target, lamps int) {
	reachable := g.reachable()
	targets := []int{0}
	needed := make([]int, 1<<g.n) // lamps, for each of these targets
search:
	for i := 0; i < len(targets); i++ {
		for _, switched := range g.switched[:g.n] {
			next := targets[i] ^ switched
			if next == 0 || needed[next] > 0 {
				continue
			}
			needed[next] = needed[targets[i]] + 1
			targets = append(targets, next)
			if len(targets) == reachable {
				break search
			}
		}
	}
	target = slices.MinFunc(targets, func(a, b int) int {
		return cmp.Or(cmp.Compare(needed[b], needed[a]), cmp.Compare(a, b))
	})
	return target, needed[target]
}
