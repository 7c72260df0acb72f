package switches

import (
	"iter"
)

// parts has for each place the name of the part in which it is.
type parts [maxPlaces]int

// apart has each place as a part of its own.
func apart() parts {
	var p parts
	for place := range p {
		p[place] = place
	}
	return p
}

// join makes one part of those at the ends of a wire, and tells whether they were two.
func (p *parts) join(wire [2]int) bool {
	one, other := p[wire[0]], p[wire[1]]
	for place, part := range *p {
		if part == other {
			p[place] = one
		}
	}
	return one != other
}

// separates tells whether a wire leads from one part to another one.
func (p *parts) separates(wire [2]int) bool {
	return p[wire[0]] != p[wire[1]]
}

// partings yields all ways to part n places, each with the number of its parts, which have the names 0, 1, .. in the order of their least places.
func partings(n int) iter.Seq2[parts, int] {
	return func(yield func(parts, int) bool) {
		var p parts
		var part func(place, number int) bool
		part = func(place, number int) bool {
			if place == n {
				return yield(p, number)
			}
			for name := range number + 1 {
				p[place] = name
				if !part(place+1, max(number, name+1)) {
					return false
				}
			}
			return true
		}
		part(0, 0)
	}
}
