package dice

import (
	"maps"
	"slices"

	"bibelot/api"
)

// Twins returns all pairs of dice, as large as a and b and with the same least sides, that have the same sums.
func Twins(a, b []int) ([][2][]int, api.Errno) {
	if e := check(a, b); e != api.OK {
		return nil, e
	}
	return pairs(waysOf(a, b), [2]int{len(a), len(b)}, [2]int{a[0], b[0]}), api.OK
}

// Even returns all pairs of dice with n and m sides that show each sum from 0 to n m - 1 in one way.
func Even(n, m int) ([][2][]int, api.Errno) {
	if !isSize(n) || !isSize(m) {
		return nil, api.ErrArg
	}
	ways := map[int]int64{}
	for sum := range n * m {
		ways[sum] = 1
	}
	return pairs(ways, [2]int{n, m}, [2]int{0, 0}), api.OK
}

// Chains returns the number of chains for n and m.
func Chains(n, m int) (int64, api.Errno) {
	if !isSize(n) || !isSize(m) {
		return 0, api.ErrArg
	}
	if n == 1 && m == 1 { // the empty list counts once
		return 1, api.OK
	}
	return chainsFrom(n, m) + chainsFrom(m, n), api.OK
}

func isSize(n int) bool {
	return n >= 1 && n <= maxSides
}

// chainsFrom counts the chains that have the factors of n at the even places.
func chainsFrom(n, m int) int64 {
	if n == 1 && m == 1 {
		return 1
	}
	number := int64(0)
	for factor := 2; factor <= n; factor++ {
		if n%factor == 0 {
			number += chainsFrom(m, n/factor)
		}
	}
	return number
}

// pairs returns all pairs of dice with these sizes and least sides whose sums have the ways that are left; it uses up left.
//
// The least sum that is left is always made of the next side of one die and the least side of the other one: only these two are tried. At the same sum the first die does not grow after the second one, so each pair is found once; and as the first die is tried first, they are found in the order of lists.
func pairs(left map[int]int64, sizes, least [2]int) [][2][]int {
	var found [][2][]int
	sums := slices.Sorted(maps.Keys(left))
	pair := [2][]int{{least[0]}, {least[1]}}
	left[least[0]+least[1]]--
	// at is a place in sums below which nothing is left, barred the one at which the first die may not grow.
	var grow func(at, barred int)
	grow = func(at, barred int) {
		if len(pair[0]) == sizes[0] && len(pair[1]) == sizes[1] {
			found = append(found, [2][]int{slices.Clone(pair[0]), slices.Clone(pair[1])})
			return
		}
		for left[sums[at]] == 0 {
			at++
		}
	dice:
		for i := range pair {
			die, other := pair[i], pair[1-i]
			side := sums[at] - other[0]
			if len(die) == sizes[i] || side > maxSide || (i == 0 && at == barred) {
				continue
			}
			for k, s := range other {
				if left[side+s] == 0 {
					giveBack(left, side, other[:k])
					continue dice
				}
				left[side+s]--
			}
			pair[i] = append(die, side)
			if i == 0 {
				grow(at, barred)
			} else {
				grow(at, at)
			}
			pair[i] = die
			giveBack(left, side, other)
		}
	}
	grow(0, -1)
	return found
}

// giveBack adds the sums that a side makes with these sides of the other die to those that are left.
func giveBack(left map[int]int64, side int, other []int) {
	for _, s := range other {
		left[side+s]++
	}
}
