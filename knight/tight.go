package knight

import (
	"bibelot/api"
)

// Tight returns a tight set, if there is one.
func Tight(r, c int) (int, bool, api.Errno) {
	b, e := boardOf(r, c)
	if e != api.OK {
		return 0, false, e
	}
	for _, side := range [2]set{b.even, b.odd} {
		for part := range side.parts {
			if b.isTight(part) {
				return int(part), true, api.OK
			}
		}
	}
	return 0, false, api.OK
}

// IsTight tells whether a set is tight.
func IsTight(r, c, set int) (bool, api.Errno) {
	b, squares, e := boardAndSet(r, c, set)
	if e != api.OK {
		return false, e
	}
	return b.isTight(squares), api.OK
}

func (b *board) isTight(s set) bool {
	side, other := b.even, b.odd
	if s&side == 0 {
		side, other = other, side
	}
	if s == 0 || s&other != 0 || b.around(s).size() > s.size() {
		return false
	}
	return s != side || other.size() < side.size()
}
