package knight

import (
	"bibelot/api"
)

// Quiet returns as many quiet knights as possible, and their number.
func Quiet(r, c int) (int, int, api.Errno) {
	b, e := boardOf(r, c)
	if e != api.OK {
		return 0, 0, e
	}
	quiet := b.quiet()
	return int(quiet), quiet.size(), api.OK
}

// IsQuiet tells whether no two squares of the set are a move from one another.
func IsQuiet(r, c, set int) (bool, api.Errno) {
	b, squares, e := boardAndSet(r, c, set)
	if e != api.OK {
		return false, e
	}
	return squares&b.around(squares) == 0, api.OK
}

// quiet follows Konig. From the even squares that have no partner it goes by moves to odd squares, and from these to their partners. The even squares that are reached and the odd ones that are not are quiet. Of each pair just one is among them, as odd squares that are reached have partners (otherwise the pairing could grow), and so are all squares that are in no pair: no quiet knights can be more.
func (b *board) quiet() set {
	p, alone := b.pair()
	reached := colours{even: alone}
	for before := (colours{}); reached != before; {
		before = reached
		reached.odd = b.around(reached.even)
		reached.even |= union(&p.partners, reached.odd)
	}
	return reached.even | b.odd&^reached.odd
}

// pairing is being made: partners has for each odd square the set of its partner, or the empty one.
type pairing struct {
	*board
	partners [maxSquares]set
	tried    set // odd squares
}

// pair makes a pairing with as many pairs as possible, and returns, too, the even squares that are in none. An even square that finds no partner at its turn would find none later.
func (b *board) pair() (*pairing, set) {
	p := &pairing{board: b}
	paired := b.even.where(p.grow)
	return p, b.even &^ paired
}

// grow finds a partner for one more even square, and tells whether it could.
func (p *pairing) grow(even int) bool {
	p.tried = 0
	return p.join(even)
}

// join finds a partner for an even square among the odd ones that were not tried: one without a partner, or one whose partner can join another one.
func (p *pairing) join(even int) bool {
	for odd := range p.moves[even].squares {
		if p.tried.has(odd) {
			continue
		}
		p.tried |= setOf(odd)
		if other := p.partners[odd]; other == 0 || p.join(other.least()) {
			p.partners[odd] = setOf(even)
			return true
		}
	}
	return false
}

// Pairing returns a pairing with as many pairs as possible.
func Pairing(r, c int) ([][2]int, api.Errno) {
	b, e := boardOf(r, c)
	if e != api.OK {
		return nil, e
	}
	p, _ := b.pair()
	var pairs [][2]int
	for odd := range b.odd.squares {
		for even := range p.partners[odd].squares {
			pairs = append(pairs, [2]int{even, odd})
		}
	}
	return pairs, api.OK
}
