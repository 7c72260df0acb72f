package pancake

import (
	"slices"

	"bibelot/api"
)

// picture has the numbers of a row's points by their places, and their places by their numbers. A black line joins two places, a grey line two numbers, that differ only in their last bit.
type picture struct {
	numbers, places []int
}

func pictureOf(row ...int) picture {
	numbers := []int{0}
	for _, x := range row {
		if x > 0 {
			numbers = append(numbers, 2*x-1, 2*x)
		} else {
			numbers = append(numbers, -2*x, -2*x-1)
		}
	}
	numbers = append(numbers, 2*len(row)+1)
	places := make([]int, len(numbers))
	for place, number := range numbers {
		places[number] = place
	}
	return picture{numbers, places}
}

// line has the places of its two ends, the lesser one first.
type line struct {
	from, to int
}

// grey returns the grey lines.
func (p picture) grey() []line {
	var lines []line
	for ends := range slices.Chunk(p.places, 2) {
		lines = append(lines, line{min(ends[0], ends[1]), max(ends[0], ends[1])})
	}
	return lines
}

// blackAt is the black line with an end at that place.
func blackAt(place int) line {
	return line{place &^ 1, place | 1}
}

func (l line) isTurned() bool {
	return l.from%2 == l.to%2
}

// isAlone tells whether a grey line is the only one of its circle.
func (l line) isAlone() bool {
	return l == blackAt(l.from)
}

func (l line) crosses(other line) bool {
	return l.encloses(other.from) != l.encloses(other.to)
}

func (l line) encloses(place int) bool {
	return l.from < place && place < l.to
}

// circles returns for each circle its grey lines, rising; the circles in the order of lists.
func (p picture) circles() [][]int {
	var seen [maxRow + 1]bool // grey lines
	follow := func(number int) []int {
		var circle []int
		for !seen[number/2] {
			seen[number/2] = true
			circle = append(circle, number/2)
			// Along the grey line, then along the black one.
			number = p.numbers[p.places[number^1]^1]
		}
		slices.Sort(circle)
		return circle
	}
	var circles [][]int
	for grey := range len(p.numbers) / 2 {
		if !seen[grey] {
			circles = append(circles, follow(2*grey))
		}
	}
	return circles
}

// Picture returns the numbers of the row's points in their order.
func Picture(s []int) ([]int, api.Errno) {
	if e := CheckRow(s); e != api.OK {
		return nil, e
	}
	return pictureOf(s...).numbers, api.OK
}

// Circles returns for each circle of the row's picture its grey lines, rising; the circles in the order of lists.
func Circles(s []int) ([][]int, api.Errno) {
	if e := CheckRow(s); e != api.OK {
		return nil, e
	}
	return pictureOf(s...).circles(), api.OK
}
