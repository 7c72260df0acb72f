package hanoi

import (
	"bibelot/api"
)

const maxTotalDiscs = 7

// Total returns the sum of the distances of all pairs of positions of n discs.
func Total(n int) (int64, api.Errno) {
	if n < 1 || n > maxTotalDiscs {
		return 0, api.ErrArg
	}
	total := int64(0)
	for disc := range n {
		// A greatest disc that stays does so on one of three pegs; one that moves has three pegs to come from and two to go to.
		total = 3*total + 6*crossings(disc)
	}
	return total, api.OK
}

// crossings is the sum of the distances of all pairs of positions in which this disc is the greatest one and goes from peg 0 to peg 1.
func crossings(disc int) int64 {
	all := gatherings(disc)
	sum := int64(0)
	for _, s := range all {
		for _, t := range all {
			one := s[2] + 1 + t[2]
			two := s[1] + 1<<disc + 1 + t[0]
			sum += min(one, two)
		}
	}
	return sum
}

// gatherings are for each position of so many discs the least numbers of moves after which all are on peg 0, on peg 1, on peg 2.
func gatherings(discs int) [][usualPegs]int64 {
	all := [][usualPegs]int64{{}}
	for disc := range discs {
		var more [][usualPegs]int64
		for _, smaller := range all {
			for from := range usualPegs {
				moves := smaller
				for to := range usualPegs {
					if to != from {
						moves[to] = smaller[third(from, to)] + 1<<disc
					}
				}
				more = append(more, moves)
			}
		}
		all = more
	}
	return all
}
