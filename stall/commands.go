package stall

import (
	"slices"

	"bibelot/api"
	"bibelot/dice"
	"bibelot/hanoi"
	"bibelot/light"
	"bibelot/magic"
	"bibelot/pancake"
	"bibelot/peg"
	"bibelot/price"
)

const (
	maxDice  = 6
	maxSides = 8
	holes    = 8
	tower    = 4 // discs
	side     = 3 // rows and columns of the lamps
	order    = 3 // of the square
	places   = 4 // of the game of switches
	maxWires = 8
	maxSeen  = 5
)

// commandFor returns the form of the command with that first word, and what does it, or nil if there is none.
func (s *Stall) commandFor(first string) (form, func(words) api.Errno) {
	switch first {
	case "die":
		return form{names: 1, least: 1, most: maxSides}, s.die
	case "sell":
		return form{names: 1}, s.sell
	case "jump":
		return numbers(3), s.jump
	case "disc":
		return numbers(2), s.disc
	case "press":
		return numbers(1), s.press
	case "write":
		return numbers(3), s.write
	case "flip":
		return numbers(1), s.flip
	case "wire":
		return numbers(2), s.wire
	case "see":
		return numbers(4), s.see
	}
	return form{}, nil
}

func (s *Stall) die(w words) api.Errno {
	name := w.names[0]
	if _, known := s.dice[name]; known {
		return api.ErrState
	}
	if len(s.dice) == maxDice {
		return api.ErrFull
	}
	if e := dice.Check([][]int{w.numbers}); e != api.OK {
		return e
	}
	s.dice[name] = w.numbers
	return api.OK
}

func (s *Stall) sell(w words) api.Errno {
	name := w.names[0]
	if _, known := s.dice[name]; !known {
		return api.ErrNone
	}
	delete(s.dice, name)
	return api.OK
}

// row is the lines of the board of pegs: any three holes that follow one another.
func row() [][3]int {
	var lines [][3]int
	for i := range holes - 2 {
		lines = append(lines, [3]int{i, i + 1, i + 2})
	}
	return lines
}

func (s *Stall) jump(w words) api.Errno {
	jump := [3]int{w.numbers[0], w.numbers[1], w.numbers[2]}
	position, e := peg.Play(holes, row(), s.position, [][3]int{jump})
	if e != api.OK {
		return e
	}
	s.position = position
	return api.OK
}

func (s *Stall) disc(w words) api.Errno {
	move := [2]int{w.numbers[0], w.numbers[1]}
	list, made, e := hanoi.Play(s.discs, [][2]int{move})
	if e != api.OK || made == 0 {
		return api.ErrDiscs
	}
	s.discs = list
	return api.OK
}

func (s *Stall) press(w words) api.Errno {
	lamp := w.numbers[0]
	n, edges, _ := light.Grid(side, side)
	if lamp < 0 || lamp >= n {
		return api.ErrArg
	}
	effect, e := light.Effect(n, edges, true, 1<<lamp)
	s.lamps ^= effect
	return e
}

func (s *Stall) write(w words) api.Errno {
	i, k, number := w.numbers[0], w.numbers[1], w.numbers[2]
	if i < 0 || i >= order || k < 0 || k >= order {
		return api.ErrArg
	}
	square := s.square
	square[i][k] = number
	// That it has a filling is not asked, only that it is open.
	if _, e := magic.Fillings(rowsOf(square), 1); e != api.OK {
		return e
	}
	s.square = square
	return api.OK
}

func rowsOf(square [order][order]int) [][]int {
	var list [][]int
	for _, line := range square {
		list = append(list, slices.Clone(line[:]))
	}
	return list
}

// orderedStack is what the stack is at first, and what it is to become again.
func orderedStack() []int {
	return []int{1, 2, 3, 4, 5}
}

func (s *Stall) flip(w words) api.Errno {
	top := w.numbers[0]
	if top == 1 { // no flip of a stack, but one that pancake takes
		return api.ErrArg
	}
	stack, e := pancake.Flip(s.stack, top)
	if e != api.OK {
		return e
	}
	s.stack = stack
	return api.OK
}

func (s *Stall) wire(w words) api.Errno {
	lesser, greater := slices.Min(w.numbers), slices.Max(w.numbers)
	if lesser < 0 || greater >= places || lesser == greater {
		return api.ErrArg
	}
	if len(s.wires) == maxWires {
		return api.ErrFull
	}
	s.wires = append(s.wires, [2]int{lesser, greater})
	slices.SortFunc(s.wires, func(one, other [2]int) int {
		return slices.Compare(one[:], other[:])
	})
	return api.OK
}

func (s *Stall) see(w words) api.Errno {
	if len(s.seen) == maxSeen {
		return api.ErrFull
	}
	one := price.Seen{Prices: w.numbers[:2], Bundle: w.numbers[2:]}
	if e := price.Check([]price.Seen{one}); e != api.OK {
		return e
	}
	s.seen = append(s.seen, one)
	return api.OK
}
