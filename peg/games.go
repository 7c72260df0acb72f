package peg

import (
	"iter"
	"math/bits"
	"slices"

	"bibelot/api"
)

// Solve returns a game from p to q, if there is one.
func Solve(n int, lines [][3]int, p, q int) ([][3]int, bool, api.Errno) {
	if e := check(n, lines, p, q); e != api.OK {
		return nil, false, e
	}
	lasts := map[int]jump{}
	for position, last := range reached(jumpsOf(lines), p) {
		lasts[position] = last
		if position == q {
			return followBack(lasts, q), true, api.OK
		}
	}
	return nil, false, api.OK
}

// Reached returns all positions to which games from p lead, rising.
func Reached(n int, lines [][3]int, p int) ([]int, api.Errno) {
	if e := check(n, lines, p); e != api.OK {
		return nil, e
	}
	var list []int
	for position := range reached(jumpsOf(lines), p) {
		list = append(list, position)
	}
	slices.Sort(list)
	return list, api.OK
}

// Fewest returns the least number of pegs to which games from p lead.
func Fewest(n int, lines [][3]int, p int) (int, api.Errno) {
	if e := check(n, lines, p); e != api.OK {
		return 0, e
	}
	fewest := n
	for position := range reached(jumpsOf(lines), p) {
		fewest = min(fewest, bits.OnesCount(uint(position)))
	}
	return fewest, api.OK
}

// reached yields the positions to which games from p lead, each once, with the last jump of such a game: first p, with no jump, and never one before the one from which that jump was made.
func reached(all []jump, p int) iter.Seq2[int, jump] {
	return func(yield func(int, jump) bool) {
		var marks [1 << maxHoles]bool
		marks[p] = true
		if !yield(p, jump{}) {
			return
		}
		list := []int{p}
	search:
		for i := 0; i < len(list); i++ {
			for j := range possible(all, list[i]) {
				position := j.from(list[i])
				if marks[position] {
					continue
				}
				marks[position] = true
				if !yield(position, j) {
					break search
				}
				list = append(list, position)
			}
		}
	}
}

// followBack returns the game that leads to a position, made of the last jumps to each of its positions.
func followBack(lasts map[int]jump, position int) [][3]int {
	var game [][3]int
	for {
		last := lasts[position]
		if last == (jump{}) {
			slices.Reverse(game)
			return game
		}
		game = append(game, last.list())
		position = last.from(position)
	}
}
