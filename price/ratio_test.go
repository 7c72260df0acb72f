package price_test

import (
	"math/big"
	"testing"

	"bibelot/api"
	"bibelot/price"
)

func rat(over, under int) *big.Rat {
	return big.NewRat(int64(over), int64(under))
}

// fraction is two numbers of Index as a fraction: false if they are not in lowest terms.
func fraction(over, under int) (*big.Rat, bool) {
	if under < 1 {
		return nil, false
	}
	r := rat(over, under)
	return r, r.Num().Int64() == int64(over) && r.Denom().Int64() == int64(under)
}

func TestIndex(t *testing.T) {
	for _, l := range markets() {
		for i := range l {
			for k := range l {
				index, e := price.Index(l, i, k)
				laspeyres, lowest := fraction(index[0], index[1])
				paasche, lowest2 := fraction(index[2], index[3])
				if !lowest || !lowest2 || e != api.OK || laspeyres.Cmp(rat(cost(l, k, i), cost(l, i, i))) != 0 || paasche.Cmp(rat(cost(l, k, k), cost(l, i, k))) != 0 {
					t.Fatalf("Index of %v, %d, %d: %v, %d", l, i, k, index, e)
				}
			}
		}
	}
}

// P9.8: one is the inverse of the other the other way round, and tells what is preferred.
func TestKonues(t *testing.T) {
	for _, l := range markets() {
		costs, _ := price.Costs(l)
		prefers, _ := price.Prefers(l)
		for i := range l {
			for k := range l {
				forth, _ := price.Index(l, i, k)
				back, _ := price.Index(l, k, i)
				if forth != [4]int{back[3], back[2], back[1], back[0]} {
					t.Errorf("Index of %v, %d, %d: %v, back: %v", l, i, k, forth, back)
				}
				atMost := rat(forth[0], forth[1]).Cmp(rat(costs[k][k], costs[i][i])) <= 0
				if atMost != (prefers[k][i] > 0) {
					t.Errorf("Index of %v, %d, %d: %v, but Prefers: %v", l, i, k, forth, prefers)
				}
			}
		}
	}
}

func TestIndexKnown(t *testing.T) {
	for _, x := range []struct {
		name string
		i, k int
		want [4]int
	}{
		{"good", 0, 1, [4]int{2, 1, 1, 2}}, {"good", 1, 0, [4]int{2, 1, 1, 2}}, {"good", 1, 1, [4]int{1, 1, 1, 1}}, {"bad", 0, 1, [4]int{1, 2, 2, 1}}, {"even", 0, 1, [4]int{2, 1, 1, 1}}, {"even", 0, 2, [4]int{1, 1, 1, 2}}, {"alone", 0, 0, [4]int{1, 1, 1, 1}},
		{"one", 0, 1, [4]int{20, 3, 20, 3}}, {"one", 1, 2, [4]int{1, 20, 1, 20}}, {"dear", 1, 0, [4]int{20, 1, 20, 1}}, {"dear", 2, 3, [4]int{1, 20, 1, 20}}, {"dear", 4, 1, [4]int{41, 60, 1, 20}},
	} {
		if index, e := price.Index(known()[x.name], x.i, x.k); index != x.want || e != api.OK {
			t.Errorf("Index of %s, %d, %d: %v, %d", x.name, x.i, x.k, index, e)
		}
	}
}
