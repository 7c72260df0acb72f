package price

import (
	"iter"
	"math/bits"
	"slices"
)

// set is a set of observations, by their indices: the number whose bits they are.
type set uint8

func setOf(i int) set {
	return 1 << i
}

func (s set) has(i int) bool {
	return s>>i&1 == 1
}

// members yields the indices in the set, rising.
func (s set) members(yield func(int) bool) {
	for ; s != 0; s &= s - 1 {
		if !yield(bits.TrailingZeros8(uint8(s))) {
			return
		}
	}
}

func (s set) list() []int {
	return slices.Collect(s.members)
}

// groups yields all groups of the indices 0 to n - 1, but for the empty one: the larger ones first, those of one size in the order of their lists.
func groups(n int) iter.Seq[set] {
	return func(yield func(set) bool) {
		var complete func(group set, next, missing int) bool
		complete = func(group set, next, missing int) bool {
			if missing == 0 {
				return yield(group)
			}
			for i := next; i <= n-missing; i++ {
				if !complete(group|setOf(i), i+1, missing-1) {
					return false
				}
			}
			return true
		}
		for size := n; size > 0; size-- {
			if !complete(0, 0, size) {
				return
			}
		}
	}
}
