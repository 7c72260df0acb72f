package switches

import (
	"math/bits"
	"slices"
)

// set is a set of wires, by their indices, or one of places: the number whose bits they are.
type set uint16

func setOf(members ...int) set {
	var s set
	for _, member := range members {
		s |= 1 << member
	}
	return s
}

func (s set) has(member int) bool {
	return s>>member&1 == 1
}

func (s set) includes(other set) bool {
	return other&^s == 0
}

func (s set) size() int {
	return bits.OnesCount16(uint16(s))
}

// members yields the members of the set, rising.
func (s set) members(yield func(int) bool) {
	for ; s != 0; s &= s - 1 {
		if !yield(bits.TrailingZeros16(uint16(s))) {
			return
		}
	}
}

func (s set) list() []int {
	return slices.Collect(s.members)
}

// subsets yields the sets within the set, rising, but for the empty one.
func (s set) subsets(yield func(set) bool) {
	// Taking the set away carries through all bits outside of it, so it counts up in those inside, and back to 0 at the end.
	for part := -s & s; part != 0 && yield(part); {
		part = (part - s) & s
	}
}
