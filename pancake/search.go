package pancake

import (
	"iter"
)

// stack has the numbers of a stack, the top first, or those of a row that is no longer than one, and then zeros. So two are equal just if the lists are.
type stack [maxStack]int8

func stackOf(numbers ...int) stack {
	var s stack
	for place, number := range numbers {
		s[place] = int8(number)
	}
	return s
}

// ordered is the stack 1, 2, .., n.
func ordered(n int) stack {
	var s stack
	for place := range n {
		s[place] = int8(place + 1)
	}
	return s
}

func (s stack) size() int {
	n := 0
	for n < maxStack && s[n] != 0 {
		n++
	}
	return n
}

func (s stack) turned(from, to int, signed bool) stack {
	turn(s[from:to+1], signed)
	return s
}

// flips yields all flips of a stack, each with the stack after it.
func (k kind) flips(at stack) iter.Seq2[int, stack] {
	least := 2
	if k.signed() {
		least = 1
	}
	return func(yield func(int, stack) bool) {
		for top := least; top <= at.size(); top++ {
			if !yield(top, at.turned(0, top-1, k.signed())) {
				return
			}
		}
	}
}

// turns yields all turns of a row, each with the row after it.
func turns(at stack) iter.Seq2[[2]int, stack] {
	return func(yield func([2]int, stack) bool) {
		for to := range at.size() {
			for from := range to + 1 {
				if !yield([2]int{from, to}, at.turned(from, to, true)) {
					return
				}
			}
		}
	}
}

// step is how a shortest way to the goal goes on.
type step[M any] struct {
	move  M
	after stack
	left  int // moves to the goal, this one included
}

// search goes from the goal back to stacks that need more and more moves, until it has come to the last one or to all. As a move that is made twice changes nothing, the moves back are those to the goal.
func search[M any](goal stack, moves func(stack) iter.Seq2[M, stack], isLast func(stack) bool) map[stack]step[M] {
	steps := map[stack]step[M]{goal: {}}
	queue := []stack{goal}
back:
	for i := 0; i < len(queue); i++ {
		at := queue[i]
		left := steps[at].left + 1
		for move, before := range moves(at) {
			if _, known := steps[before]; known {
				continue
			}
			steps[before] = step[M]{move, at, left}
			if isLast(before) {
				break back
			}
			queue = append(queue, before)
		}
	}
	return steps
}

// way returns as few moves as possible that lead from a stack to the goal.
func way[M any](from, goal stack, moves func(stack) iter.Seq2[M, stack]) []M {
	if from == goal {
		return nil
	}
	steps := search(goal, moves, func(before stack) bool {
		return before == from
	})
	var list []M
	for at := from; at != goal; at = steps[at].after {
		list = append(list, steps[at].move)
	}
	return list
}
