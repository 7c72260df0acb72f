package hanoi

import (
	"bibelot/api"
)

const maxWayDiscs = 12

// third is the peg that is neither of two different ones.
func third(one, other int) int {
	return usualPegs - one - other
}

// gathering is the least number of moves after which the first discs, so many, are all on the peg.
func (at position) gathering(discs, peg int) int64 {
	moves := int64(0)
	for disc := discs - 1; disc >= 0; disc-- {
		if at.peg(disc) == peg {
			continue
		}
		// The disc moves once, when the smaller ones are all on the third peg; to follow it they need 2^disc - 1 moves.
		moves += 1 << disc
		peg = third(at.peg(disc), peg)
	}
	return moves
}

// greatest is the greatest disc whose pegs differ, or -1 if none do.
func greatest(s, t position) int {
	disc := maxDiscs - 1
	for disc >= 0 && s[disc] == t[disc] {
		disc--
	}
	return disc
}

// lengths are the least numbers of moves of the ways from s to t with one great move, and of those with two. The greater discs stay where they are, and the disc itself is the greatest one that differs.
func lengths(s, t position, disc int) (one, two int64) {
	from, to := s.peg(disc), t.peg(disc)
	aside := third(from, to)
	one = s.gathering(disc, aside) + 1 + t.gathering(disc, aside)
	// Between two great moves all smaller discs go from one peg to another one, which takes 2^disc - 1 moves.
	two = s.gathering(disc, to) + 1<<disc + 1 + t.gathering(disc, from)
	return one, two
}

// Distance returns the least number of moves of a way from s to t.
func Distance(s, t []int) (int64, api.Errno) {
	if e := check(s, t); e != api.OK {
		return 0, e
	}
	from, to := positionOf(s), positionOf(t)
	if from == to {
		return 0, api.OK
	}
	one, two := lengths(from, to, greatest(from, to))
	return min(one, two), api.OK
}

// Kind tells whether the shortest ways have one great move (1), two (2), or some one and some two (3).
func Kind(s, t []int) (int, api.Errno) {
	if e := check(s, t); e != api.OK {
		return 0, e
	}
	from, to := positionOf(s), positionOf(t)
	if from == to {
		return 0, api.ErrArg
	}
	one, two := lengths(from, to, greatest(from, to))
	switch {
	case one < two:
		return 1, api.OK
	case one > two:
		return 2, api.OK
	}
	return 3, api.OK
}

// Way returns a shortest way from s to t, for at most 12 discs.
func Way(s, t []int) ([][2]int, api.Errno) {
	if e := check(s, t); e != api.OK {
		return nil, e
	}
	if len(s) > maxWayDiscs {
		return nil, api.ErrArg
	}
	return shortest(positionOf(s), positionOf(t)), api.OK
}

// shortest writes a shortest way from at to goal. After the great moves the smaller discs are all on one peg, and the rest of the way is the shortest one from there.
func shortest(at, goal position) [][2]int {
	var way [][2]int
	move := func(disc, peg int) {
		way = append(way, [2]int{disc, peg})
		at = at.after([2]int{disc, peg})
	}
	var gather func(discs, peg int)
	gather = func(discs, peg int) {
		if discs == 0 {
			return
		}
		disc := discs - 1
		if from := at.peg(disc); from != peg {
			gather(disc, third(from, peg))
			move(disc, peg)
		}
		gather(disc, peg)
	}
	for at != goal {
		disc := greatest(at, goal)
		from, to := at.peg(disc), goal.peg(disc)
		aside := third(from, to)
		if one, two := lengths(at, goal, disc); one <= two {
			gather(disc, aside)
		} else {
			gather(disc, to)
			move(disc, aside)
			gather(disc, from)
		}
		move(disc, to)
	}
	return way
}

// Farthest returns the greatest distance from s to any discs with as many. No discs are farther than some that are all on one peg: a way with one great move, of a disc to a peg, takes at most as many moves as the shortest one that brings this disc and all smaller ones to that peg.
func Farthest(s []int) (int64, api.Errno) {
	if e := check(s); e != api.OK {
		return 0, e
	}
	farthest := int64(0)
	for peg := range usualPegs {
		farthest = max(farthest, positionOf(s).gathering(len(s), peg))
	}
	return farthest, api.OK
}
