package pancake

import (
	"bibelot/api"
)

const maxOrdered = 6 // numbers of a row that is to be put in order

// between returns the flips from s to t.
func (k kind) between(s, t []int) (int, api.Errno) {
	if e := k.check(s, t); e != api.OK {
		return 0, e
	}
	return len(way(stackOf(s...), stackOf(t...), k.flips)), api.OK
}

// order returns as few flips as possible that put s in order.
func (k kind) order(s []int) ([]int, api.Errno) {
	if e := k.check(s); e != api.OK {
		return nil, e
	}
	return way(stackOf(s...), ordered(len(s)), k.flips), api.OK
}

// worst returns the greatest number of flips that stacks of n numbers need, and how many need that many.
func (k kind) worst(n int) (int, int64, api.Errno) {
	if n < 1 || n > k.most() {
		return 0, 0, api.ErrArg
	}
	all := search(ordered(n), k.flips, func(stack) bool {
		return false
	})
	most, many := 0, int64(0)
	for _, step := range all {
		if step.left > most {
			most, many = step.left, 0
		}
		if step.left == most {
			many++
		}
	}
	return most, many, api.OK
}

// Flips returns the least number of flips from s to t.
func Flips(s, t []int) (int, api.Errno) {
	return plain.between(s, t)
}

// FlipsBurnt returns the least number of flips from s to t, which are burnt stacks.
func FlipsBurnt(s, t []int) (int, api.Errno) {
	return burnt.between(s, t)
}

// Order returns as few flips as possible that lead to 1, 2, .., n.
func Order(s []int) ([]int, api.Errno) {
	return plain.order(s)
}

// OrderBurnt returns as few flips as possible that lead to 1, 2, .., n, for a burnt stack.
func OrderBurnt(s []int) ([]int, api.Errno) {
	return burnt.order(s)
}

// Worst returns the greatest number of flips that a stack of n numbers needs to 1, 2, .., n, and how many stacks need that many.
func Worst(n int) (int, int64, api.Errno) {
	return plain.worst(n)
}

// WorstBurnt returns the greatest number of flips that a burnt stack of n numbers needs to 1, 2, .., n, and how many need that many.
func WorstBurnt(n int) (int, int64, api.Errno) {
	return burnt.worst(n)
}

// OrderTurns returns as few turns as possible that lead to 1, 2, .., n, for a row of at most 6 numbers.
func OrderTurns(s []int) ([][2]int, api.Errno) {
	if e := CheckRow(s); e != api.OK {
		return nil, e
	}
	if len(s) > maxOrdered {
		return nil, api.ErrArg
	}
	return way(stackOf(s...), ordered(len(s)), turns), api.OK
}
