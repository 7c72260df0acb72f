package price_test

import (
	"fmt"
	"math"
	"math/big"
	"slices"
	"testing"

	"bibelot/api"
	"bibelot/price"
)

// fractions are the shares at which preferences of some observations change, and some beside these.
func fractions(l []seen) [][2]int {
	list := [][2]int{{0, 1}, {1, 1}, {1, 2}, {0, 2000}, {1, 2000}, {1999, 2000}, {2000, 2000}, {1, 1999}, {1000, 2000}}
	for i := range l {
		for k := range l {
			a, b := cost(l, i, k), cost(l, i, i)
			for _, f := range [][2]int{{a, b}, {a - 1, b}, {a + 1, b}, {a * (2000 / b), b * (2000 / b)}, {2000 * a / b, 2000}, {2000*a/b + 1, 2000}} {
				if f[0] >= 0 && f[0] <= f[1] {
					list = append(list, f)
				}
			}
		}
	}
	return list
}

func TestWeak(t *testing.T) {
	weaker := 0
	for at, l := range markets() {
		if at%5 != 0 && len(l) < 3 || at%2 != 0 && len(l) > 3 {
			continue
		}
		_, full, _ := price.Ring(l)
		for _, f := range fractions(l) {
			ring, is, e := price.Weak(l, f[0], f[1])
			if is != hasRing(l, f[0], f[1]) || is != isRing(l, ring, f[0], f[1]) || !is && len(ring) > 0 || e != api.OK {
				t.Errorf("Weak of %v, %v: %v, %t, %d", l, f, ring, is, e)
			}
			if is && f[0] < f[1] {
				weaker++
			}
			if is && !full || is != full && f[0] == f[1] {
				t.Errorf("Weak of %v, %v: %t, but of 1: %t", l, f, is, full)
			}
		}
	}
	if weaker == 0 {
		t.Error("no ring by a share that is less than 1")
	}
}

func TestWeakKnown(t *testing.T) {
	uneven := []seen{two(1, 2, 0, 3), two(2, 1, 2, 0)} // 2 of 6, 3 of 4
	for _, x := range []struct {
		l    []seen
		a, b int
		want bool
	}{
		{known()["bad"], 1, 1, true}, {known()["bad"], 1, 2, false}, {known()["bad"], 1000, 2000, false}, {known()["bad"], 1001, 2000, true}, {known()["bad"], 999, 1999, false}, {known()["bad"], 1000, 1999, true}, {known()["bad"], 0, 1, false}, {known()["bad"], 0, 2000, false},
		{uneven, 3, 4, true}, {uneven, 1500, 2000, true}, {uneven, 1499, 2000, false}, {uneven, 2, 3, false}, {uneven, 1, 3, false},
		{known()["same"], 1, 1, false}, {known()["even"], 1, 1, false}, {known()["alone"], 2000, 2000, false}, {known()["round"], 1, 2, false}, {known()["round"], 501, 1000, true},
	} {
		if ring, is, e := price.Weak(x.l, x.a, x.b); is != x.want || is != (len(ring) > 1) || e != api.OK {
			t.Errorf("Weak of %v: %v, %t, %d", x, ring, is, e)
		}
	}
}

func TestNoShare(t *testing.T) {
	l := known()["bad"]
	for _, f := range [][2]int{{1, 0}, {0, 0}, {-1, 0}, {2, 1}, {-1, 1}, {-1, -1}, {-2, -1}, {0, -1}, {1, -2}, {1, 2001}, {2001, 2001}, {0, 2001}, {2000, 1999}, {1<<32 + 1, 2}, {1, 1<<32 + 2}, {1 << 32, 1 << 32}, {-1 << 32, 1}} {
		wantRefused(t, api.ErrArg, fmt.Sprint("Weak of ", f), all(price.Weak(l, f[0], f[1])))
	}
	for _, x := range []int{math.MinInt, math.MaxInt} {
		for _, y := range []int{0, 1, 2, 2000, -1, math.MinInt, math.MaxInt} {
			wantRefused(t, api.ErrArg, fmt.Sprint("Weak of ", x, y), all(price.Weak(l, x, y)))
			if y > 2000 || y < 0 || x > 0 {
				wantRefused(t, api.ErrArg, fmt.Sprint("Weak of ", y, x), all(price.Weak(l, y, x)))
			}
		}
	}
}

// isShare follows the definition: two costs to own ones differ by at least 1 / 1200^2, so it tells of all shares what those next to a / b by less have.
func isShare(l []seen, a, b int) bool {
	const fine = 10_000_000
	less := hasRing(l, a*fine-1, b*fine)
	more := hasRing(l, a*fine+1, b*fine)
	return !less && (a == b || more)
}

func TestShare(t *testing.T) {
	shares := map[[2]int]bool{}
	for _, l := range markets() {
		a, b, e := price.Share(l)
		if a < 1 || a > b || big.NewInt(0).GCD(nil, nil, big.NewInt(int64(a)), big.NewInt(int64(b))).Int64() != 1 || !isShare(l, a, b) || e != api.OK {
			t.Errorf("Share of %v: %d / %d, %d", l, a, b, e)
		}
		if _, ring, _ := price.Ring(l); !ring && a != b {
			t.Errorf("Share of %v: %d / %d, but there is no ring", l, a, b)
		}
		shares[[2]int{a, b}] = true
	}
	if len(shares) < 50 {
		t.Errorf("only these shares: %v", shares)
	}
}

func TestShareKnown(t *testing.T) {
	for _, x := range []struct {
		l    []seen
		a, b int
	}{
		{known()["bad"], 1, 2}, {known()["good"], 1, 1}, {known()["alone"], 1, 1}, {known()["round"], 1, 2}, {known()["even"], 1, 1}, {known()["same"], 1, 1}, {known()["loop"], 1, 2},
		{[]seen{two(1, 2, 0, 3), two(2, 1, 2, 0)}, 3, 4},
		{[]seen{two(1, 2, 0, 1), two(1, 1, 1, 0), two(2, 1, 0, 2)}, 1, 1}, // a ring, but by no share less than 1
		{[]seen{three(20, 20, 20, 20, 20, 19), three(19, 20, 20, 20, 20, 20)}, 1, 1},
		{[]seen{three(20, 19, 20, 20, 18, 20), three(20, 20, 19, 20, 20, 18)}, 570, 571},
		{[]seen{three(20, 20, 19, 20, 20, 19), three(20, 19, 20, 20, 19, 20)}, 1160, 1161},
	} {
		if a, b, e := price.Share(x.l); a != x.a || b != x.b || e != api.OK {
			t.Errorf("Share of %v: %d / %d, %d", x, a, b, e)
		}
	}
}

// parts are all lists of indices below n, rising, but for the empty one.
func parts(n int) [][]int {
	return slices.DeleteFunc(walks(n), func(list []int) bool {
		return len(list) == 0 || !slices.IsSorted(list)
	})
}

// alone are those observations.
func alone(l []seen, list []int) []seen {
	var some []seen
	for _, i := range list {
		some = append(some, l[i])
	}
	return some
}

// most follows the definition.
func most(l []seen) []int {
	var best []int
	for _, list := range parts(len(l)) {
		if (len(list) > len(best) || len(list) == len(best) && slices.Compare(list, best) < 0) && !hasRing(alone(l, list), 1, 1) {
			best = list
		}
	}
	return best
}

func TestMost(t *testing.T) {
	sizes := map[[2]int]bool{}
	for at, l := range markets() {
		if at%5 != 0 && len(l) < 3 {
			continue
		}
		list, e := price.Most(l)
		if !slices.Equal(list, most(l)) || len(list) == 0 || e != api.OK {
			t.Errorf("Most of %v: %v, %d", l, list, e)
		}
		if _, ring, _ := price.Ring(l); ring == (len(list) == len(l)) {
			t.Errorf("Most of %v: %v, but a ring: %t", l, list, ring)
		}
		for _, part := range parts(len(list)) {
			if _, ring, e := price.Ring(alone(alone(l, list), part)); ring || e != api.OK {
				t.Errorf("Most of %v: %v, but of its part %v: a ring", l, list, part)
			}
		}
		sizes[[2]int{len(l), len(list)}] = true
	}
	for _, want := range [][2]int{{2, 1}, {3, 1}, {3, 2}, {4, 2}, {4, 3}, {5, 2}, {5, 3}, {5, 4}, {5, 5}} {
		if !sizes[want] {
			t.Errorf("no %d observations of which %d are of one taste", want[0], want[1])
		}
	}
}

func TestMostKnown(t *testing.T) {
	bad := known()["bad"]
	for _, x := range []struct {
		l    []seen
		want string
	}{
		{bad, "[0]"}, {known()["alone"], "[0]"}, {known()["good"], "[0 1]"}, {known()["round"], "[0 1]"}, {known()["even"], "[0 1 2]"}, {known()["long"], "[0 1 2 3 4]"},
		{[]seen{bad[0], bad[1], bad[1]}, "[1 2]"}, {[]seen{bad[0], bad[1], bad[0], bad[1]}, "[0 2]"}, {[]seen{bad[1], bad[0], bad[0], bad[1]}, "[0 3]"}, {[]seen{bad[0], bad[1], bad[1], bad[0], bad[1]}, "[1 2 4]"},
	} {
		if list, e := price.Most(x.l); fmt.Sprint(list) != x.want || e != api.OK {
			t.Errorf("Most of %v: %v, %d", x, list, e)
		}
	}
}
