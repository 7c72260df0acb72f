package dice

import (
	"maps"
	"slices"

	"bibelot/api"
)

// Sums returns the sums of the dice, each with its ways, rising.
func Sums(dice [][]int) ([][2]int64, api.Errno) {
	if e := check(dice...); e != api.OK {
		return nil, e
	}
	ways := waysOf(dice...)
	var sums [][2]int64
	for _, sum := range slices.Sorted(maps.Keys(ways)) {
		sums = append(sums, [2]int64{int64(sum), ways[sum]})
	}
	return sums, api.OK
}

// Ways returns in how many results the sides have that sum.
func Ways(dice [][]int, sum int) (int64, api.Errno) {
	if e := check(dice...); e != api.OK {
		return 0, e
	}
	return waysOf(dice...)[sum], api.OK
}

// Same tells whether a and b have the same sums, each in as many ways.
func Same(a, b [][]int) (bool, api.Errno) {
	if e := check(a...); e != api.OK {
		return false, e
	}
	if e := check(b...); e != api.OK {
		return false, e
	}
	return maps.Equal(waysOf(a...), waysOf(b...)), api.OK
}

// waysOf adds one die after the other, so that it looks at sums rather than at every result.
func waysOf(dice ...[]int) map[int]int64 {
	ways := map[int]int64{0: 1}
	for _, die := range dice {
		more := map[int]int64{}
		for sum, number := range ways {
			for _, side := range die {
				more[sum+side] += number
			}
		}
		ways = more
	}
	return ways
}
