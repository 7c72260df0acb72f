package price

import (
	"cmp"

	"bibelot/api"
)

// ratio is the cost of one bundle, divided by that of another one.
type ratio struct {
	over, under int
}

func (r ratio) compare(other ratio) int {
	return cmp.Compare(r.over*other.under, other.over*r.under)
}

func (r ratio) inLowestTerms() ratio {
	a, b := r.over, r.under
	for b != 0 {
		a, b = b, a%b
	}
	return ratio{over: r.over / a, under: r.under / a}
}

// toOwn is what bundle k costs at the prices of i, divided by what the own bundle does.
func (m market) toOwn(i, k int) ratio {
	return ratio{over: m.costs[i][k], under: m.costs[i][i]}
}

// Index returns Laspeyres and Paasche from i to k.
func Index(l []Seen, i, k int) ([4]int, api.Errno) {
	m, e := marketOf(l, i, k)
	if e != api.OK {
		return [4]int{}, e
	}
	laspeyres := ratio{over: m.costs[k][i], under: m.costs[i][i]}.inLowestTerms()
	paasche := ratio{over: m.costs[k][k], under: m.costs[i][k]}.inLowestTerms()
	return [4]int{laspeyres.over, laspeyres.under, paasche.over, paasche.under}, api.OK
}
