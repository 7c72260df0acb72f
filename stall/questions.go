package stall

import (
	"math/bits"
	"strconv"
	"strings"

	"bibelot/api"
	"bibelot/dice"
	"bibelot/hanoi"
	"bibelot/light"
	"bibelot/magic"
	"bibelot/pancake"
	"bibelot/peg"
	"bibelot/price"
	"bibelot/switches"
)

const (
	goal         = 2 // the peg to which all discs are to go
	toldFillings = 9 // more are not told
)

// questionFor returns the form of the question with that first word, and what answers it, or nil if there is none.
func (s *Stall) questionFor(first string) (form, func(words) (string, api.Errno)) {
	switch first {
	case "sums":
		return form{}, s.sums
	case "beats":
		return form{names: 2}, s.beats
	case "ring":
		return form{}, s.ring
	case "pegs":
		return form{}, s.pegs
	case "tower":
		return form{}, s.tower
	case "dark":
		return form{}, s.dark
	case "fill":
		return form{}, s.fill
	case "cakes":
		return form{}, s.cakes
	case "kind":
		return form{}, s.kind
	case "taste":
		return form{}, s.taste
	case "share":
		return form{}, s.share
	}
	return form{}, nil
}

// told is a reply of a word and numbers.
func told(word string, numbers ...int) string {
	for _, number := range numbers {
		word += " " + strconv.Itoa(number)
	}
	return word
}

func toldWhether(word string, is bool) string {
	if is {
		return word + " yes"
	}
	return word + " no"
}

// someDice are the dice in the order of their names.
func (s *Stall) someDice() [][]int {
	var list [][]int
	for _, name := range s.Dice() {
		list = append(list, s.dice[name])
	}
	return list
}

func (s *Stall) sums(words) (string, api.Errno) {
	if len(s.dice) == 0 {
		return "", api.ErrNone
	}
	sums, e := dice.Sums(s.someDice())
	reply := []string{"sums"}
	for _, pair := range sums {
		reply = append(reply, strconv.FormatInt(pair[0], 10)+":"+strconv.FormatInt(pair[1], 10))
	}
	return strings.Join(reply, " "), e
}

func (s *Stall) beats(w words) (string, api.Errno) {
	a, has := s.dice[w.names[0]]
	b, hasOther := s.dice[w.names[1]]
	if !has || !hasOther {
		return "", api.ErrNone
	}
	more, less, _, e := dice.Compare(a, b)
	return told("beats", more, less), e
}

func (s *Stall) ring(words) (string, api.Errno) {
	_, is, _ := dice.Ring(s.someDice()) // without dice an error, and no ring
	return toldWhether("ring", is), api.OK
}

func (s *Stall) pegs(words) (string, api.Errno) {
	fewest, e := peg.Fewest(holes, row(), s.position)
	return told("pegs", fewest), e
}

func (s *Stall) tower(words) (string, api.Errno) {
	target := make([]int, tower)
	for disc := range target {
		target[disc] = goal
	}
	distance, e := hanoi.Distance(s.discs, target)
	return told("tower", int(distance)), e
}

func (s *Stall) dark(words) (string, api.Errno) {
	n, edges, _ := light.Grid(side, side)
	pressed, _, e := light.Fewest(n, edges, true, s.lamps) // on this grid any lamps come of some
	return told("dark", bits.OnesCount(uint(pressed))), e
}

func (s *Stall) fill(words) (string, api.Errno) {
	fillings, e := magic.Fillings(rowsOf(s.square), toldFillings)
	return told("fill", fillings), e
}

func (s *Stall) cakes(words) (string, api.Errno) {
	flips, e := pancake.Flips(s.stack, orderedStack())
	return told("cakes", flips), e
}

func (s *Stall) kind(words) (string, api.Errno) {
	kind, e := switches.Kind(switches.Game{N: places, S: 0, T: places - 1, Wires: s.wires})
	return "kind " + kind, e
}

func (s *Stall) taste(words) (string, api.Errno) {
	if len(s.seen) == 0 {
		return "", api.ErrNone
	}
	_, is, e := price.Ring(s.seen)
	return toldWhether("taste", !is), e
}

func (s *Stall) share(words) (string, api.Errno) {
	if len(s.seen) == 0 {
		return "", api.ErrNone
	}
	over, under, e := price.Share(s.seen)
	return told("share", over, under), e
}
