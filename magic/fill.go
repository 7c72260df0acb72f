package magic

import (
	"slices"

	"bibelot/api"
)

const (
	maxOpen     = 4 // the order of an open square
	maxFillings = 8000
)

// Fill returns a filling of the open square.
func Fill(s [][]int) ([][]int, bool, api.Errno) {
	f, e := fillerOf(s)
	if e != api.OK {
		return nil, false, e
	}
	var filling [][]int
	f.search(func(found square) bool {
		filling = found.list()
		return false
	})
	return filling, filling != nil, api.OK
}

// Fillings returns the number of fillings of the open square, or most if there are more.
func Fillings(s [][]int, most int) (int, api.Errno) {
	f, e := fillerOf(s)
	if e != api.OK {
		return 0, e
	}
	if most < 1 || most > maxFillings {
		return 0, api.ErrArg
	}
	number := 0
	f.search(func(square) bool {
		number++
		return number < most
	})
	return number, api.OK
}

// line is one of an open square, with the sum of its numbers and the number of its open places.
type line struct {
	places    []place
	sum, open int
}

// filler is an open square that is being filled.
type filler struct {
	square
	used    [maxOpen*maxOpen + 1]bool
	lines   []*line
	through [maxOpen][maxOpen][]*line // the lines of each place
}

func fillerOf(list [][]int) (*filler, api.Errno) {
	squares, e := squaresOf(list)
	if e != api.OK {
		return nil, e
	}
	f := &filler{square: square{n: len(list)}}
	if f.n > maxOpen {
		return nil, api.ErrSquare
	}
	for places := range lines(f.n) {
		l := &line{places: places, open: f.n}
		f.lines = append(f.lines, l)
		for _, p := range places {
			f.through[p.row][p.column] = append(f.through[p.row][p.column], l)
		}
	}
	for row, numbers := range squares[0].list() {
		for column, number := range numbers {
			if number < 0 || number > f.n*f.n || f.used[number] {
				return nil, api.ErrSquare
			}
			if number > 0 {
				f.put(place{row, column}, number)
			}
		}
	}
	return f, api.OK
}

// put writes a number at an open place.
func (f *filler) put(p place, number int) {
	f.grid[p.row][p.column] = number
	f.used[number] = true
	for _, l := range f.through[p.row][p.column] {
		l.sum += number
		l.open--
	}
}

// take opens a place again.
func (f *filler) take(p place) {
	number := f.at(p)
	f.grid[p.row][p.column] = 0
	f.used[number] = false
	for _, l := range f.through[p.row][p.column] {
		l.sum -= number
		l.open++
	}
}

// search calls found for each filling, until that returns false.
func (f *filler) search(found func(square) bool) {
	mayFit := func(l *line) bool {
		return f.compare(l.sum, l.open) == 0
	}
	if all(f.lines, mayFit) {
		f.fill(found)
	}
}

// fill does that if all lines may still fit, and tells whether to go on.
func (f *filler) fill(found func(square) bool) bool {
	tightest := f.tightest()
	if tightest == nil {
		return found(f.square)
	}
	p := tightest.places[slices.IndexFunc(tightest.places, f.isOpen)]
	through := f.through[p.row][p.column]
walk:
	for number := 1; number <= f.n*f.n; number++ {
		if f.used[number] {
			continue
		}
		for _, l := range through {
			switch f.compare(l.sum+number, l.open-1) {
			case -1:
				continue walk
			case 1: // the greater numbers are too great as well
				break walk
			}
		}
		f.put(p, number)
		goOn := f.fill(found)
		f.take(p)
		if !goOn {
			return false
		}
	}
	return true
}

// tightest is the first of the lines with the fewest open places, those with none left out, or nil if no place is open.
func (f *filler) tightest() *line {
	var best *line
	for _, l := range f.lines {
		if l.open > 0 && (best == nil || l.open < best.open) {
			best = l
		}
	}
	return best
}

func (f *filler) isOpen(p place) bool {
	return f.at(p) == 0
}

// compare is 1 if the sum of a line is too great whatever comes to its open places, -1 if the line cannot fit for another reason, otherwise 0.
func (f *filler) compare(sum, open int) int {
	least := open * (open + 1) / 2 // 1 + 2 + ..
	greatest := open*(f.n*f.n+1) - least
	missing := magicSum(f.n) - sum
	switch {
	case missing < least:
		return 1
	case missing > greatest, open == 1 && f.used[missing]:
		return -1
	}
	return 0
}
