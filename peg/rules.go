package peg

import (
	"math/bits"

	"bibelot/api"
)

// parity is an equation whose unknowns are the holes: an even number of the holes that are its bits are in a rule.
type parity int

func (x parity) has(hole int) bool {
	return x>>hole&1 == 1
}

func (x parity) without(_ int, other parity) parity {
	return x ^ other
}

// Rules returns the rules' basis.
func Rules(n int, lines [][3]int) ([]int, api.Errno) {
	if e := Check(n, lines); e != api.OK {
		return nil, e
	}
	return rules(n, lines), api.OK
}

// rules makes one rule of each hole that no equation has as its own: as the own holes are the least ones of their equations, it is the greatest hole of the rule.
func rules(n int, lines [][3]int) []int {
	var equations []parity
	for _, line := range lines {
		equations = append(equations, parity(1<<line[0]|1<<line[1]|1<<line[2]))
	}
	own := reduce(equations, n)
	owned := 0
	for _, hole := range own {
		if hole >= 0 {
			owned |= 1 << hole
		}
	}
	var basis []int
	for hole := range n {
		if owned>>hole&1 == 1 {
			continue
		}
		rule := 1 << hole
		for i, x := range equations {
			if x.has(hole) {
				rule |= 1 << own[i]
			}
		}
		basis = append(basis, rule)
	}
	return basis
}

// Alike tells whether each rule has as many holes of p as of q, modulo 2.
func Alike(n int, lines [][3]int, p, q int) (bool, api.Errno) {
	if e := check(n, lines, p, q); e != api.OK {
		return false, e
	}
	for _, rule := range rules(n, lines) {
		if bits.OnesCount(uint(rule&(p^q)))%2 != 0 {
			return false, api.OK
		}
	}
	return true, api.OK
}
