package price

import (
	"slices"

	"bibelot/api"
)

const maxDenominator = 2000

// Weak returns a ring by the weak taste of the share a / b, if there is one.
func Weak(l []Seen, a, b int) ([]int, bool, api.Errno) {
	m, e := marketOf(l)
	if e != api.OK {
		return nil, false, e
	}
	if a < 0 || a > b || b < 1 || b > maxDenominator {
		return nil, false, api.ErrArg
	}
	ring := m.weakTaste(ratio{over: a, under: b}).ring()
	return ring, ring != nil, api.OK
}

// hasRingAbove tells whether there is a ring by the weak tastes of all shares that are greater than this one, which is less than 1.
func (m market) hasRingAbove(share ratio) bool {
	t := m.weakTaste(share)
	// By a greater share each of these is preferred strictly.
	t.strictly = t.preferred
	return t.ring() != nil
}

// share is the share of the taste: as preferences change only at the ratios of the costs, it is the first one of these above which there is a ring, or 1.
func (m market) share() ratio {
	whole := ratio{over: 1, under: 1}
	shares := []ratio{whole}
	for i := range m.n {
		for k := range m.n {
			if i != k {
				shares = append(shares, m.toOwn(i, k).inLowestTerms())
			}
		}
	}
	slices.SortFunc(shares, ratio.compare)
	at := slices.IndexFunc(shares, func(share ratio) bool {
		return share == whole || m.hasRingAbove(share)
	})
	return shares[at]
}

// Share returns the share of the taste.
func Share(l []Seen) (int, int, api.Errno) {
	m, e := marketOf(l)
	if e != api.OK {
		return 0, 0, e
	}
	share := m.share()
	return share.over, share.under, api.OK
}

// within is the taste of a group alone.
func (t taste) within(group set) taste {
	var part taste
	for i := range group.members {
		part.preferred[i] = t.preferred[i] & group
		part.strictly[i] = t.strictly[i] & group
	}
	return part
}

// Most returns the first one of the largest groups that alone are of one taste.
func Most(l []Seen) ([]int, api.Errno) {
	m, e := marketOf(l)
	if e != api.OK {
		return nil, e
	}
	t := m.taste()
	var most []int
	for group := range groups(m.n) {
		if t.within(group).ring() == nil {
			most = group.list()
			break
		}
	}
	return most, api.OK
}
