package peg

import (
	"slices"

	"bibelot/api"
)

const (
	maxWeight = 1000000
	maxTimes  = 1000000 // of a jump in a plan
	// The greatest board of which plans and weights are looked for.
	maxSolvedHoles = 9
	maxSolvedLines = 12
)

// IsPagoda tells whether the weights are a pagoda.
func IsPagoda(n int, lines [][3]int, weights []int) (bool, api.Errno) {
	if e := Check(n, lines); e != api.OK {
		return false, e
	}
	if !areWeights(n, weights) {
		return false, api.ErrArg
	}
	return isPagoda(lines, weights), api.OK
}

// Refutes tells whether the weights refute a game from p to q.
func Refutes(n int, lines [][3]int, p, q int, weights []int) (bool, api.Errno) {
	if e := check(n, lines, p, q); e != api.OK {
		return false, e
	}
	if !areWeights(n, weights) {
		return false, api.ErrArg
	}
	return isPagoda(lines, weights) && weigh(weights, q) > weigh(weights, p), api.OK
}

func areWeights(n int, weights []int) bool {
	return len(weights) == n && !slices.ContainsFunc(weights, func(weight int) bool {
		return weight < -maxWeight || weight > maxWeight
	})
}

// isPagoda tells whether no jump makes a position heavier.
func isPagoda(lines [][3]int, weights []int) bool {
	for _, line := range lines {
		for _, j := range both(line) {
			if weights[j.first]+weights[j.over] < weights[j.last] {
				return false
			}
		}
	}
	return true
}

func weigh(weights []int, position int) int {
	sum := 0
	for hole, weight := range weights {
		if hasPeg(position, hole) {
			sum += weight
		}
	}
	return sum
}

func hasPeg(position, hole int) bool {
	return position>>hole&1 == 1
}

// Pagoda returns weights that refute a game from p to q, if there are any.
func Pagoda(n int, lines [][3]int, p, q int) ([]int, bool, api.Errno) {
	if e := checkSolved(n, lines, p, q); e != api.OK {
		return nil, false, e
	}
	s := settle(n, lines, p, q)
	if s.refuting == nil {
		return nil, false, api.OK
	}
	return s.weights(), true, api.OK
}

// Plan returns a plan from p to q, if there is one.
func Plan(n int, lines [][3]int, p, q int) (int, [][2]int, bool, api.Errno) {
	if e := checkSolved(n, lines, p, q); e != api.OK {
		return 0, nil, false, e
	}
	s := settle(n, lines, p, q)
	if s.refuting != nil {
		return 0, nil, false, api.OK
	}
	m, plan := s.plan()
	return m, plan, true, api.OK
}

func checkSolved(n int, lines [][3]int, p, q int) api.Errno {
	if e := check(n, lines, p, q); e != api.OK {
		return e
	}
	if n > maxSolvedHoles || len(lines) > maxSolvedLines {
		return api.ErrLong
	}
	return api.OK
}

// IsPlan tells whether m and so many jumps of each line are a plan from p to q.
func IsPlan(n int, lines [][3]int, p, q, m int, jumps [][2]int) bool {
	if check(n, lines, p, q) != api.OK || m < 1 || m > maxTimes || len(jumps) != len(lines) {
		return false
	}
	var pegs [maxHoles]int // that are still to be taken from each hole
	for hole := range n {
		pegs[hole] = m * change(p, q, hole)
	}
	for i, line := range lines {
		for way, j := range both(line) {
			times := jumps[i][way]
			if times < 0 || times > maxTimes {
				return false
			}
			pegs[j.first] -= times
			pegs[j.over] -= times
			pegs[j.last] += times
		}
	}
	return pegs == [maxHoles]int{}
}

// change is how many pegs a game from p to q takes from a hole, less how many it brings there.
func change(p, q, hole int) int {
	switch {
	case hasPeg(p, hole) && !hasPeg(q, hole):
		return 1
	case !hasPeg(p, hole) && hasPeg(q, hole):
		return -1
	default:
		return 0
	}
}
