package price

import (
	"bibelot/api"
)

const (
	maxU = 10_000_000_000_000_000
	maxL = 10_000_000_000_000
)

// scale is numbers for the observations of a market.
type scale struct {
	market
	u, l []int64
}

// bound is the greatest value that observation i allows a bundle of that cost at its prices.
func (s scale) bound(i, cost int) int64 {
	return sum(s.u[i], s.l[i]*int64(cost-s.costs[i][i]))
}

// areOfTaste tells whether the numbers are numbers of a taste.
func (s scale) areOfTaste() bool {
	if len(s.u) != s.n || len(s.l) != s.n {
		return false
	}
	for i := range s.n {
		if s.u[i] < -maxU || s.u[i] > maxU || s.l[i] < 1 || s.l[i] > maxL {
			return false
		}
	}
	for i := range s.n {
		for k := range s.n {
			if s.u[k] > s.bound(i, s.costs[i][k]) {
				return false
			}
		}
	}
	return true
}

// number gives numbers to some that are as good as each other, where none of them is preferred to one that has its numbers.
func (s scale) number(alike, numbered set) {
	worth := int64(0)
	for j := range numbered.members {
		for i := range alike.members {
			worth = min(worth, s.bound(j, s.costs[j][i]))
		}
	}
	for i := range alike.members {
		s.u[i], s.l[i] = worth, 1
		for j := range numbered.members {
			dearer := int64(s.costs[i][j] - s.costs[i][i])
			s.l[i] = max(s.l[i], (s.u[j]-worth+dearer-1)/dearer)
		}
	}
}

// scaleOf finds numbers of a taste that has no ring, the best observations first. Costs differ by less than 1200, so each that gets its numbers goes down less than 1200 times as far as those before it, and the fifth one less than 1200^4, which both limits allow.
func (m market) scaleOf(t taste) scale {
	s := scale{market: m, u: make([]int64, m.n), l: make([]int64, m.n)}
	var numbered set
	var number func(i int)
	number = func(i int) {
		if numbered.has(i) {
			return
		}
		var alike set
		for k := range m.n {
			switch t.better(k, i) {
			case 1:
				number(k)
			case 2:
				alike |= setOf(k)
			}
		}
		s.number(alike, numbered)
		numbered |= alike
	}
	for i := range m.n {
		number(i)
	}
	return s
}

// Numbers returns U and L of numbers of a taste, if there are any.
func Numbers(l []Seen) ([]int64, []int64, bool, api.Errno) {
	m, e := marketOf(l)
	if e != api.OK {
		return nil, nil, false, e
	}
	t := m.taste()
	if t.ring() != nil {
		return nil, nil, false, api.OK
	}
	s := m.scaleOf(t)
	return s.u, s.l, true, api.OK
}

// AreNumbers tells whether u and k are U and L of numbers of a taste.
func AreNumbers(l []Seen, u, k []int64) (bool, api.Errno) {
	m, e := marketOf(l)
	if e != api.OK {
		return false, e
	}
	return scale{market: m, u: u, l: k}.areOfTaste(), api.OK
}

// Value returns the value of a bundle by numbers of a taste.
func Value(l []Seen, u, k []int64, bundle []int) (int64, api.Errno) {
	m, e := marketOf(l)
	if e != api.OK {
		return 0, e
	}
	s := scale{market: m, u: u, l: k}
	if !s.areOfTaste() || !areAmounts(bundle, len(l[0].Prices)) {
		return 0, api.ErrArg
	}
	least := s.bound(0, l[0].cost(bundle))
	for i := range l {
		least = min(least, s.bound(i, l[i].cost(bundle)))
	}
	return least, api.OK
}
