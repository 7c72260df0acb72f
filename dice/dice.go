// Package dice is layer 1: sums of dice, which of them beat which, and which others show the same sums. See shared/doc/01-dice.md.
package dice

import (
	"iter"
	"slices"

	"bibelot/api"
)

const (
	maxDice  = 6
	maxSides = 8
	maxSide  = 60 // the greatest number on a side
)

// Check tells whether these are some dice.
func Check(dice [][]int) api.Errno {
	return check(dice...)
}

func check(dice ...[]int) api.Errno {
	if len(dice) > maxDice || slices.ContainsFunc(dice, isLong) {
		return api.ErrLong
	}
	if len(dice) == 0 || slices.ContainsFunc(dice, isNoDie) {
		return api.ErrDie
	}
	return api.OK
}

func isLong(die []int) bool {
	return len(die) > maxSides
}

func isNoDie(die []int) bool {
	return len(die) == 0 || !slices.IsSorted(die) || die[0] < 0 || die[len(die)-1] > maxSide
}

// Results returns how many results the dice have.
func Results(dice [][]int) (int64, api.Errno) {
	if e := check(dice...); e != api.OK {
		return 0, e
	}
	number := int64(1)
	for _, die := range dice {
		number *= int64(len(die))
	}
	return number, api.OK
}

// results yields the results of the dice, in the order of the places of their sides. The list that it yields is reused: who keeps it must copy it.
func results(dice ...[]int) iter.Seq[[]int] {
	return func(yield func([]int) bool) {
		result := make([]int, len(dice))
		var roll func(i int) bool
		roll = func(i int) bool {
			if i == len(dice) {
				return yield(result)
			}
			for _, side := range dice[i] {
				result[i] = side
				if !roll(i + 1) {
					return false
				}
			}
			return true
		}
		roll(0)
	}
}
