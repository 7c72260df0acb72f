package switches

import (
	"iter"

	"bibelot/api"
)

// position has the wires that are free and those that are kept; the others are cut.
type position struct {
	free, kept set
}

// turn is a position with one of the players to move.
type turn struct {
	position
	cutMoves bool
}

// positionOf reads a position of a game.
func positionOf(g Game, p string) (position, api.Errno) {
	if e := Check(g); e != api.OK {
		return position{}, e
	}
	if len(p) != len(g.Wires) {
		return position{}, api.ErrArg
	}
	var at position
	for index, character := range p {
		switch character {
		case '.':
			at.free |= setOf(index)
		case '+':
			at.kept |= setOf(index)
		case '-':
		default:
			return position{}, api.ErrArg
		}
	}
	return at, api.OK
}

// replies yields the free wires, each with the turn that comes when the player to move has taken it.
func (t turn) replies() iter.Seq2[int, turn] {
	return func(yield func(int, turn) bool) {
		for wire := range t.free.members {
			next := turn{position{t.free &^ setOf(wire), t.kept}, !t.cutMoves}
			if !t.cutMoves {
				next.kept |= setOf(wire)
			}
			if !yield(wire, next) {
				return
			}
		}
	}
}

// judge returns what tells whether Short wins a turn. It keeps what it has told.
func (g Game) judge() func(turn) bool {
	told := map[turn]bool{}
	var shortWins func(turn) bool
	shortWins = func(t turn) bool {
		if won, known := told[t]; known {
			return won
		}
		won := t.cutMoves
		switch {
		case g.joinsEnds(t.kept):
			won = true
		case !g.joinsEnds(t.kept | t.free):
			won = false
		default:
			for _, next := range t.replies() {
				if shortWins(next) != t.cutMoves {
					won = !t.cutMoves
					break
				}
			}
		}
		told[t] = won
		return won
	}
	return shortWins
}

// CheckPosition tells whether p is a position of g.
func CheckPosition(g Game, p string) api.Errno {
	_, e := positionOf(g, p)
	return e
}

// Joined tells whether kept wires join the ends.
func Joined(g Game, p string) (bool, api.Errno) {
	at, e := positionOf(g, p)
	if e != api.OK {
		return false, e
	}
	return g.joinsEnds(at.kept), api.OK
}

// Wins tells whether Short wins the position, with Cut to move or with Short.
func Wins(g Game, p string, cutMoves bool) (bool, api.Errno) {
	at, e := positionOf(g, p)
	if e != api.OK {
		return false, e
	}
	shortWins := g.judge()
	return shortWins(turn{at, cutMoves}), api.OK
}

// Best returns a wire by which the player to move goes to a position that it wins, if there is one.
func Best(g Game, p string, cutMoves bool) (int, bool, api.Errno) {
	at, e := positionOf(g, p)
	if e != api.OK {
		return 0, false, e
	}
	shortWins := g.judge()
	for wire, next := range (turn{at, cutMoves}).replies() {
		if shortWins(next) != cutMoves {
			return wire, true, api.OK
		}
	}
	return 0, false, api.OK
}

// Kind returns who wins: short, cut, or whoever is first.
func Kind(g Game) (string, api.Errno) {
	if e := Check(g); e != api.OK {
		return "", e
	}
	shortWins := g.judge()
	start := position{free: g.wires()}
	if shortWins(turn{start, true}) {
		return "short", api.OK
	}
	if !shortWins(turn{start, false}) {
		return "cut", api.OK
	}
	return "first", api.OK
}
