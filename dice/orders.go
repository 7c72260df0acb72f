package dice

import (
	"iter"
	"slices"

	"bibelot/api"
)

const maxOrdered = 4 // dice of which the orders are counted

// Orders returns, for each order of the dice, in how many results their sides rise in that order.
func Orders(dice [][]int) ([]int64, api.Errno) {
	if e := check(dice...); e != api.OK {
		return nil, e
	}
	if len(dice) > maxOrdered {
		return nil, api.ErrLong
	}
	if haveCommonSide(dice) {
		return nil, api.ErrDie
	}
	var numbers []int64
	for order := range orders(len(dice)) {
		number := int64(0)
		for result := range results(dice...) {
			if rises(result, order) {
				number++
			}
		}
		numbers = append(numbers, number)
	}
	return numbers, api.OK
}

// Fair tells whether all orders of the dice come up equally often.
func Fair(dice [][]int) (bool, api.Errno) {
	numbers, e := Orders(dice)
	if e != api.OK {
		return false, e
	}
	return slices.Min(numbers) == slices.Max(numbers), api.OK
}

func haveCommonSide(dice [][]int) bool {
	shown := map[int]bool{}
	for _, die := range dice {
		for _, side := range die {
			if shown[side] {
				return true
			}
		}
		// Only now, as a die may show a side of its own again.
		for _, side := range die {
			shown[side] = true
		}
	}
	return false
}

// orders yields the orders of the indices 0 to n - 1, in the order of lists: they are the results without a repetition of n dice that show these indices.
func orders(n int) iter.Seq[[]int] {
	var indices []int
	for i := range n {
		indices = append(indices, i)
	}
	return func(yield func([]int) bool) {
		for list := range results(slices.Repeat([][]int{indices}, n)...) {
			if !repeats(list) && !yield(list) {
				return
			}
		}
	}
}

func repeats(list []int) bool {
	for i, x := range list {
		if slices.Contains(list[:i], x) {
			return true
		}
	}
	return false
}

func rises(result, order []int) bool {
	for k := 1; k < len(order); k++ {
		if result[order[k-1]] >= result[order[k]] {
			return false
		}
	}
	return true
}
