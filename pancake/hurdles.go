package pancake

import (
	"slices"

	"bibelot/api"
)

// components names for each grey line its component, which has the name of one of its grey lines.
func (p picture) components(grey []line) []int {
	names := make([]int, len(grey))
	for _, circle := range p.circles() {
		for _, i := range circle {
			names[i] = circle[0]
		}
	}
	for i, one := range grey {
		for k, other := range grey[:i] {
			if one.crosses(other) {
				rename(names, names[i], names[k])
			}
		}
	}
	return names
}

func rename(names []int, before, after int) {
	for i, name := range names {
		if name == before {
			names[i] = after
		}
	}
}

// obstacles are the bad components of a picture, and, in the order of their points, the component of each.
type obstacles struct {
	bad, points []int
}

func (p picture) obstacles(grey []line, names []int) obstacles {
	good := map[int]bool{}
	for i, l := range grey {
		// A line that is alone crosses no other one, so its component is this one circle.
		if l.isTurned() || l.isAlone() {
			good[names[i]] = true
		}
	}
	var o obstacles
	for i, name := range names {
		if name == i && !good[name] {
			o.bad = append(o.bad, name)
		}
	}
	for _, number := range p.numbers {
		if name := names[number/2]; !good[name] {
			o.points = append(o.points, name)
		}
	}
	return o
}

// isHurdle tells whether the points of a component all follow one another, the first one of all after the last one.
func (o obstacles) isHurdle(component int) bool {
	ends := 0
	for i, at := range o.points {
		next := o.points[(i+1)%len(o.points)]
		if at == component && next != component {
			ends++
		}
	}
	return ends <= 1
}

// isSuper tells whether some component that is no hurdle would be one without the points of that hurdle.
func (o obstacles) isSuper(hurdle int) bool {
	rest := obstacles{points: slices.DeleteFunc(slices.Clone(o.points), func(at int) bool {
		return at == hurdle
	})}
	return slices.ContainsFunc(o.bad, func(other int) bool {
		return !o.isHurdle(other) && rest.isHurdle(other)
	})
}

func (o obstacles) hurdles() []int {
	var list []int
	for _, component := range o.bad {
		if o.isHurdle(component) {
			list = append(list, component)
		}
	}
	return list
}

// isFortress tells whether hurdles, all of them, are odd in number and super.
func (o obstacles) isFortress(hurdles []int) bool {
	for _, hurdle := range hurdles {
		if !o.isSuper(hurdle) {
			return false
		}
	}
	return len(hurdles)%2 == 1
}

// Components returns the numbers of components of the row's picture, of bad ones, and of hurdles, and whether the row is a fortress.
func Components(s []int) (components, bad, hurdles int, fortress bool, e api.Errno) {
	if e = CheckRow(s); e != api.OK {
		return 0, 0, 0, false, e
	}
	p := pictureOf(s...)
	grey := p.grey()
	names := p.components(grey)
	for i, name := range names {
		if name == i {
			components++
		}
	}
	o := p.obstacles(grey, names)
	list := o.hurdles()
	return components, len(o.bad), len(list), o.isFortress(list), api.OK
}

// Distance returns the least number of turns to 1, 2, .., n, by the theorem of Hannenhalli and Pevzner.
func Distance(s []int) (int, api.Errno) {
	_, _, hurdles, fortress, e := Components(s)
	if e != api.OK {
		return 0, e
	}
	distance := len(s) + 1 - len(pictureOf(s...).circles()) + hurdles
	if fortress {
		distance++
	}
	return distance, api.OK
}
