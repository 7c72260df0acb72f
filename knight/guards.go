package knight

import (
	"bibelot/api"
)

const maxGuarded = 20 // squares of a board that is to be guarded

// Guards returns as few guards as possible, and their number.
func Guards(r, c int) (int, int, api.Errno) {
	b, e := boardOf(r, c)
	if e != api.OK {
		return 0, 0, e
	}
	if b.number > maxGuarded {
		return 0, 0, api.ErrArg
	}
	number := 0
	for {
		if guards, is := b.guards(b.all(), number); is {
			return int(guards), number, api.OK
		}
		number++
	}
}

// guards returns at most so many guards for the squares that are open, if that is possible. One of them is on the least open square or a move from it.
func (b *board) guards(open set, most int) (set, bool) {
	if open == 0 {
		return 0, true
	}
	if most == 0 {
		return 0, false
	}
	least := open.least()
	for square := range b.guardedFrom(least).squares {
		if others, is := b.guards(open&^b.guardedFrom(square), most-1); is {
			return others | setOf(square), true
		}
	}
	return 0, false
}

// guardedFrom is the set of a square and those that are a move from it.
func (b *board) guardedFrom(square int) set {
	return b.moves[square] | setOf(square)
}
