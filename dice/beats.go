package dice

import (
	"slices"

	"bibelot/api"
)

// duel says in how many results of two dice the first one shows more than the second one, less, and the same.
type duel struct {
	more, less, same int
}

// turned is the duel as the second die sees it.
func (d duel) turned() duel {
	return duel{more: d.less, less: d.more, same: d.same}
}

// Compare returns in how many results of both a shows more than b, less, and the same.
func Compare(a, b []int) (more, less, same int, e api.Errno) {
	if e = check(a, b); e != api.OK {
		return 0, 0, 0, e
	}
	d := compare(a, b)
	return d.more, d.less, d.same, api.OK
}

func compare(a, b []int) duel {
	var d duel
	for result := range results(a, b) {
		switch {
		case result[0] > result[1]:
			d.more++
		case result[0] < result[1]:
			d.less++
		default:
			d.same++
		}
	}
	return d
}

// Beats returns for each die which others it beats.
func Beats(dice [][]int) ([][]bool, api.Errno) {
	if e := check(dice...); e != api.OK {
		return nil, e
	}
	return beats(dice), api.OK
}

func beats(dice [][]int) [][]bool {
	table := make([][]bool, len(dice))
	for i := range dice {
		table[i] = make([]bool, len(dice))
		for k := range i {
			d := compare(dice[i], dice[k])
			if d == d.turned() {
				continue
			}
			table[i][k] = d.more > d.less
			table[k][i] = d.more < d.less
		}
	}
	return table
}

// Ring returns dice of which each beats the next one, and the last one the first, if there are such dice.
func Ring(dice [][]int) ([]int, bool, api.Errno) {
	if e := check(dice...); e != api.OK {
		return nil, false, e
	}
	table := beats(dice)
	_, left := rank(table)
	if len(left) == 0 {
		return nil, false, api.OK
	}
	return ringOf(table, left), true, api.OK
}

// Rank returns all dice in an order in which none beats one before it, if there is one.
func Rank(dice [][]int) ([]int, bool, api.Errno) {
	if e := check(dice...); e != api.OK {
		return nil, false, e
	}
	ranked, left := rank(beats(dice))
	if len(left) > 0 {
		return nil, false, api.OK
	}
	return ranked, true, api.OK
}

// rank takes away, again and again, the first die that none of those left beats. In the end each of those that are left is beaten by another of them: a ring is there just if some are left.
func rank(table [][]bool) (ranked, left []int) {
	for i := range table {
		left = append(left, i)
	}
	for {
		k := slices.IndexFunc(left, func(die int) bool {
			return winner(table, left, die) < 0
		})
		if k < 0 {
			return ranked, left
		}
		ranked = append(ranked, left[k])
		left = slices.Delete(left, k, k+1)
	}
}

// winner is the first of some dice that beats a die, or -1.
func winner(table [][]bool, some []int, die int) int {
	for _, other := range some {
		if table[other][die] {
			return other
		}
	}
	return -1
}

// ringOf walks from dice to their winners until one comes again. As no two dice beat each other and none beats itself, the ring has at least three.
func ringOf(table [][]bool, left []int) []int {
	var walk []int
	die := left[0]
	for !slices.Contains(walk, die) {
		walk = append(walk, die)
		die = winner(table, left, die)
	}
	ring := walk[slices.Index(walk, die):]
	slices.Reverse(ring)
	return ring
}
