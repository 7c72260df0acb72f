package price_test

import (
	"fmt"
	"math"
	"math/big"
	"slices"
	"testing"

	"bibelot/api"
	"bibelot/price"
)

const (
	mostU = 10_000_000_000_000_000
	mostL = 10_000_000_000_000
)

// bound is U(i) + L(i) (cost - C(i, i)), whatever its size.
func bound(l []seen, u, k []int64, i, cost, own int) *big.Int {
	n := big.NewInt(int64(cost) - int64(own))
	n.Mul(n, big.NewInt(k[i]))
	return n.Add(n, big.NewInt(u[i]))
}

// areNumbers follows the definition.
func areNumbers(l []seen, u, k []int64) bool {
	if len(u) != len(l) || len(k) != len(l) {
		return false
	}
	for i := range l {
		if u[i] < -mostU || u[i] > mostU || k[i] < 1 || k[i] > mostL {
			return false
		}
		for j := range l {
			if big.NewInt(u[j]).Cmp(bound(l, u, k, i, cost(l, i, j), cost(l, i, i))) > 0 {
				return false
			}
		}
	}
	return true
}

// value is the least of the bounds.
func value(l []seen, u, k []int64, bundle []int) int64 {
	with := append(slices.Clone(l), seen{nil, bundle})
	var least *big.Int
	for i := range l {
		n := bound(l, u, k, i, cost(with, i, len(l)), cost(l, i, i))
		if least == nil || n.Cmp(least) < 0 {
			least = n
		}
	}
	return least.Int64()
}

// steep are observations with numbers that are far apart: some costs differ little from the own ones one way, and much the other way.
func steep() [][]seen {
	return [][]seen{
		{two(13, 14, 0, 12), two(1, 20, 12, 20), two(19, 1, 13, 0), two(3, 13, 4, 2), two(17, 15, 19, 12)},
		{three(11, 14, 11, 0, 19, 2), three(15, 5, 16, 5, 1, 20), three(20, 1, 20, 16, 18, 13), three(7, 20, 1, 14, 19, 6), three(14, 4, 7, 4, 3, 3)},
		{two(1, 20, 20, 20), two(20, 1, 20, 19), two(1, 20, 19, 18), two(20, 1, 18, 17), two(1, 20, 17, 16)},
	}
}

// P9.6, with W1: numbers are there just if there is no ring.
func TestNumbers(t *testing.T) {
	both := map[bool]int{}
	for _, l := range slices.Concat(markets(), steep()) {
		u, k, is, e := price.Numbers(l)
		if is == hasRing(l, 1, 1) || is != areNumbers(l, u, k) || !is && len(u)+len(k) > 0 || e != api.OK {
			t.Errorf("Numbers of %v: %v, %v, %t, %d", l, u, k, is, e)
		}
		both[is]++
	}
	if both[true] < 100 || both[false] < 100 {
		t.Errorf("numbers and none: %v", both)
	}
}

// All orders of the same observations.
func TestNumbersInAnyOrder(t *testing.T) {
	lists := append(steep(), known()["long"], known()["rank"], known()["even"], known()["one"], known()["loop"], known()["dear"])
	for _, l := range lists {
		for _, order := range walks(len(l)) {
			if len(order) == 0 {
				continue
			}
			turned := alone(l, order)
			u, k, is, e := price.Numbers(turned)
			if is == hasRing(turned, 1, 1) || is != areNumbers(turned, u, k) || e != api.OK {
				t.Errorf("Numbers of %v: %v, %v, %t, %d", turned, u, k, is, e)
			}
		}
	}
}

func TestNumbersKnown(t *testing.T) {
	for name, want := range map[string]bool{"alone": true, "good": true, "bad": false, "same": true, "even": true, "round": false, "one": true, "rank": true, "long": true, "loop": false} {
		if u, k, is, e := price.Numbers(known()[name]); is != want || is && (len(u) != len(known()[name]) || len(k) != len(u)) || e != api.OK {
			t.Errorf("Numbers of %s: %v, %v, %t, %d", name, u, k, is, e)
		}
	}
}

// checkNumbers wants what AreNumbers and Value say of lists to be what the definitions say.
func checkNumbers(t *testing.T, l []seen, u, k []int64, bundle []int) {
	t.Helper()
	want := areNumbers(l, u, k)
	if is, e := price.AreNumbers(l, u, k); is != want || e != api.OK {
		t.Errorf("AreNumbers of %v, %.80s: %t, %d", l, fmt.Sprint(u, k), is, e)
	}
	if !want {
		wantRefused(t, api.ErrArg, fmt.Sprintf("Value of %v, %.80s", l, fmt.Sprint(u, k)), all(price.Value(l, u, k, bundle)))
		return
	}
	if n, e := price.Value(l, u, k, bundle); n != value(l, u, k, bundle) || e != api.OK {
		t.Errorf("Value of %v, %v, %v, %v: %d, %d", l, u, k, bundle, n, e)
	}
}

// All small numbers of two observations.
func TestAreNumbersOfAll(t *testing.T) {
	for _, name := range []string{"good", "bad", "same"} {
		l := known()[name]
		for code := range 7 * 7 * 5 * 5 {
			u := []int64{int64(code%7 - 3), int64(code/7%7 - 3)}
			k := []int64{int64(code / 49 % 5), int64(code / 245)}
			checkNumbers(t, l, u, k, []int{code % 21, code % 3})
		}
	}
}

// Numbers of a taste with small changes.
func TestAreNumbers(t *testing.T) {
	pick := numbers(6)
	limits := []int64{-mostU, -mostU - 1, mostU, mostU + 1, mostL, mostL + 1, 0, 1, -1, math.MaxInt64, math.MinInt64, 1 << 62, 1<<32 + 1}
	for at, l := range slices.Concat(markets(), steep()) {
		u, k, is, _ := price.Numbers(l)
		if !is || at%10 != 0 && len(l) < 4 {
			continue
		}
		bundle := make([]int, len(l[0].Prices))
		for good := range bundle {
			bundle[good] = pick(21)
		}
		checkNumbers(t, l, u, k, bundle)
		for i := range l {
			for _, by := range []int64{-1, 1, -int64(1 + pick(50)), int64(1 + pick(50))} {
				other := slices.Clone(u)
				other[i] += by
				checkNumbers(t, l, other, k, bundle)
				other = slices.Clone(k)
				other[i] += by
				checkNumbers(t, l, u, other, bundle)
			}
			limit := limits[pick(len(limits))]
			other := slices.Clone(u)
			other[i] = limit
			checkNumbers(t, l, other, k, bundle)
			other = slices.Clone(k)
			other[i] = limit
			checkNumbers(t, l, u, other, bundle)
		}
		checkNumbers(t, l, u[1:], k, bundle)
		checkNumbers(t, l, u, k[1:], bundle)
		checkNumbers(t, l, u[1:], k[1:], bundle)
		checkNumbers(t, l, append(slices.Clone(u), u[0]), append(slices.Clone(k), k[0]), bundle)
		checkNumbers(t, l, append(slices.Clone(u), 0), k, bundle)
		checkNumbers(t, l, u, append(slices.Clone(k), 1), bundle)
		checkNumbers(t, l, nil, nil, bundle)
	}
}

// The greatest numbers that are allowed, and those that are just too great.
func TestNumbersAtLimits(t *testing.T) {
	one := known()["alone"]
	for _, u := range []int64{-mostU - 1, -mostU, 0, mostU, mostU + 1, math.MaxInt64, math.MinInt64} {
		for _, k := range []int64{math.MinInt64, -mostL, -1, 0, 1, mostL, mostL + 1, math.MaxInt64} {
			checkNumbers(t, one, []int64{u}, []int64{k}, []int{20, 20})
			checkNumbers(t, one, []int64{u}, []int64{k}, []int{0, 0})
		}
	}
	// The bundle of the first one costs 1, that of the second one 1200 at the same prices: U may differ by 1199 times L.
	far := []seen{three(20, 20, 20, 0, 0, 1), three(20, 20, 20, 20, 20, 20)}
	const half = 1180 * mostL / 2
	for _, d := range []int64{-1, 0, 1} {
		checkNumbers(t, far, []int64{-half, half + d}, []int64{mostL, mostL}, []int{20, 20, 20})
		checkNumbers(t, far, []int64{-half + d, half}, []int64{mostL, mostL}, []int{0, 0, 0})
		checkNumbers(t, far, []int64{-half + d, half}, []int64{mostL, 1}, []int{0, 20, 0})
	}
	if is, e := price.AreNumbers(far, []int64{-half, half}, []int64{mostL, mostL}); !is || e != api.OK {
		t.Errorf("AreNumbers as far apart as can be: %t, %d", is, e)
	}
	many := make([]int64, 100000)
	checkNumbers(t, far, many, many, []int{1, 1, 1})
}

func TestValue(t *testing.T) {
	l := known()["good"]
	for a := range 21 {
		for b := range 21 {
			// 1 and 2 are the prices, then 2 and 1; each bundle cost 2.
			want := int64(min(a+2*b-2, 3*(2*a+b-2)))
			if n, e := price.Value(l, []int64{0, 0}, []int64{1, 3}, []int{a, b}); n != want || e != api.OK {
				t.Errorf("Value of %d, %d: %d, %d", a, b, n, e)
			}
		}
	}
	if n, e := price.Value(l, []int64{0, 0}, []int64{1, 1}, []int{5, 5}); n != 13 || e != api.OK {
		t.Errorf("Value of 5, 5: %d, %d", n, e)
	}
	if n, e := price.Value(known()["alone"], []int64{mostU}, []int64{mostL}, []int{20, 20}); n != mostU+58*mostL || e != api.OK {
		t.Errorf("Value of 20, 20: %d, %d", n, e)
	}
	for _, bundle := range [][]int{nil, {1}, {1, 1, 1}, {-1, 1}, {1, -1}, {21, 0}, {0, 21}, {math.MinInt, 0}, {0, math.MaxInt}, {1 << 32, 0}, {0, 1<<32 + 1}, {256, 0}, make([]int, 100000)} {
		wantRefused(t, api.ErrArg, fmt.Sprintf("Value of %.80s", fmt.Sprint(bundle)), all(price.Value(l, []int64{0, 0}, []int64{1, 1}, bundle)))
	}
}

// P9.6: the value of a bundle that was bought is its U, and none that costs at most that much has a greater one.
func TestAfriat(t *testing.T) {
	pick := numbers(3)
	for at, l := range slices.Concat(markets(), steep()) {
		u, k, is, _ := price.Numbers(l)
		if !is || at%10 != 0 && len(l) < 3 {
			continue
		}
		for i, s := range l {
			if n, e := price.Value(l, u, k, s.Bundle); n != u[i] || e != api.OK {
				t.Errorf("Value of %v, %v, %v, bundle %d: %d, %d", l, u, k, i, n, e)
			}
			for range 20 {
				bundle := make([]int, len(s.Bundle))
				spend(seen{s.Prices, bundle}, cost(l, i, i), pick)
				if n, e := price.Value(l, u, k, bundle); n > u[i] || e != api.OK {
					t.Errorf("Value of %v, %v, %v, %v: %d, %d, more than %d", l, u, k, bundle, n, e, u[i])
				}
			}
		}
	}
}
