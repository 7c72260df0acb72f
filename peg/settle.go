package peg

import (
	"slices"
)

// balance is an equation whose unknowns are how often each jump of the board is made. It has the factor of each jump (two for each line), then the weight of each hole, then the sum that the jumps have, each times its factor.
//
// The balance of a hole says that the jumps take from it what a game from p to q takes. Every balance here is the sum of those of the holes, each times its weight.
type balance []int

func (b balance) has(unknown int) bool {
	return b[unknown] != 0
}

// without keeps the sign of the balance's factors that the other one does not have, if the other one's factor of the unknown is positive. What all numbers have in common is taken out: they then are no greater than the determinants of the board, which on nine holes have three digits.
func (b balance) without(unknown int, other balance) balance {
	left := make(balance, len(b))
	divisor := 0
	for k := range b {
		left[k] = b[k]*other[unknown] - other[k]*b[unknown]
		divisor = greatestDivisor(divisor, left[k])
	}
	for k := range left {
		left[k] /= max(1, divisor)
	}
	return left
}

func (b balance) negate() {
	for k := range b {
		b[k] = -b[k]
	}
}

func (b balance) sum() int {
	return b[len(b)-1]
}

// settled is what was found out about the games from p to q: the balances, each with the jump of its own that no other one has (or -1), and the one that cannot hold, or nil if there is none.
type settled struct {
	holes, jumps int
	balances     []balance
	own          []int
	refuting     balance
}

// settle finds out how often to make the jumps, or why that cannot be.
//
// Each balance gives its own jump the number that it has if all jumps that are nobody's own are made no times. If that is negative, the balance gets another own jump, one with a negative factor; if there is none, its weights refute the game. Taking the first such balance and the first such jump each time (Bland's rule), no choice of own jumps ever comes again, so this ends.
func settle(n int, lines [][3]int, p, q int) settled {
	s := settled{holes: n, jumps: 2 * len(lines), balances: balances(n, lines, p, q)}
	s.own = reduce(s.balances, s.jumps)
	// From here on the factor of an own jump is positive.
	for i, b := range s.balances {
		if own := s.own[i]; (own >= 0 && b[own] < 0) || (own < 0 && b.sum() > 0) {
			b.negate()
		}
	}
	givesNoNegative := func(b balance) bool {
		return b.sum() >= 0
	}
	for {
		i := s.firstFailing(givesNoNegative)
		if i < 0 {
			return s
		}
		b := s.balances[i]
		next := slices.IndexFunc(b[:s.jumps], func(factor int) bool {
			return factor < 0
		})
		if next < 0 {
			s.refuting = b
			return s
		}
		b.negate()
		s.own[i] = next
		isolate(s.balances, i, next)
	}
}

// balances returns the balance of each hole.
func balances(n int, lines [][3]int, p, q int) []balance {
	list := make([]balance, n)
	for hole := range list {
		b := make(balance, 2*len(lines)+n+1)
		b[2*len(lines)+hole] = 1
		b[len(b)-1] = change(p, q, hole)
		list[hole] = b
	}
	for i, line := range lines {
		for way, j := range both(line) {
			list[j.first][2*i+way] = 1
			list[j.over][2*i+way] = 1
			list[j.last][2*i+way] = -1
		}
	}
	return list
}

// firstFailing is the place of the balance with the first own jump among those that do not do what they must, or -1.
func (s settled) firstFailing(must func(balance) bool) int {
	first := -1
	for i, b := range s.balances {
		if !must(b) && (first < 0 || s.own[i] < s.own[first]) {
			first = i
		}
	}
	return first
}

// weights are those of the balance that cannot hold: no jump makes a position heavier, and q is heavier than p.
func (s settled) weights() []int {
	return slices.Clone(s.refuting[s.jumps : s.jumps+s.holes])
}

// plan is made of the numbers of the own jumps, times a number m that makes integers of all of them.
func (s settled) plan() (m int, jumps [][2]int) {
	m = 1
	for i, b := range s.balances {
		if own := s.own[i]; own >= 0 {
			m *= b[own] / greatestDivisor(m, b[own])
		}
	}
	jumps = make([][2]int, s.jumps/2)
	for i, b := range s.balances {
		if own := s.own[i]; own >= 0 {
			jumps[own/2][own%2] = m / b[own] * b.sum()
		}
	}
	return m, jumps
}

// greatestDivisor is the greatest number that divides both, or 0 if both are 0.
func greatestDivisor(a, b int) int {
	for b != 0 {
		a, b = b, a%b
	}
	return max(a, -a)
}
