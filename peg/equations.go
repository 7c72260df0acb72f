package peg

import (
	"slices"
)

// equation is one of several equations with the same unknowns, which are numbered from 0 on.
type equation[E any] interface {
	// has tells whether the equation has an unknown.
	has(unknown int) bool
	// without is the equation, with the other one added or taken away so often that it does not have the unknown.
	without(unknown int, other E) E
}

// reduce changes equations so that the first unknowns that allow it are each in one equation alone. It returns for each equation its unknown, or -1 if none is left in it. An equation's unknown is the least one that it has.
func reduce[E equation[E]](equations []E, unknowns int) []int {
	own := slices.Repeat([]int{-1}, len(equations))
	for unknown := range unknowns {
		for i, e := range equations {
			if own[i] < 0 && e.has(unknown) {
				own[i] = unknown
				isolate(equations, i, unknown)
				break
			}
		}
	}
	return own
}

// isolate takes an unknown out of all equations but that at place i.
func isolate[E equation[E]](equations []E, i, unknown int) {
	for k, e := range equations {
		if k != i && e.has(unknown) {
			equations[k] = e.without(unknown, equations[i])
		}
	}
}
