package dice_test

import (
	"math"
	"slices"
	"testing"

	"bibelot/api"
	"bibelot/dice"
)

func TestResults(t *testing.T) {
	for _, x := range []struct {
		dice [][]int
		want int64
	}{
		{[][]int{six, six}, 36},
		{[][]int{{0}}, 1},
		{[][]int{{5, 5, 5}, {5, 5}}, 6}, // each side counts by itself
		{[][]int{{1}, {1, 2}, {1, 2, 3}, {1, 2, 3, 4}}, 24},
		{[][]int{eight, eight, eight, eight, eight, eight}, 262144},
	} {
		if n, e := dice.Results(x.dice); n != x.want || e != api.OK {
			t.Errorf("Results of %v: %d, %d, want %d", x.dice, n, e, x.want)
		}
	}
}

func TestSums(t *testing.T) {
	for _, x := range []struct {
		dice [][]int
		want string
	}{
		{[][]int{six, six}, "[[2 1] [3 2] [4 3] [5 4] [6 5] [7 6] [8 5] [9 4] [10 3] [11 2] [12 1]]"},
		{[][]int{{0}}, "[[0 1]]"},
		{[][]int{{5, 5, 5}, {5, 5}}, "[[10 6]]"},
		{[][]int{{0, 60}, {0, 60}, {0, 60}, {0, 60}, {0, 60}, {0, 60}}, "[[0 1] [60 6] [120 15] [180 20] [240 15] [300 6] [360 1]]"},
		{[][]int{{3}, {0, 0, 9}}, "[[3 2] [12 1]]"},
	} {
		l, e := dice.Sums(x.dice)
		if e != api.OK {
			t.Errorf("Sums of %v: error %d", x.dice, e)
		}
		equal(t, "Sums", l, x.want)
	}
}

func TestSumsCounted(t *testing.T) {
	for _, d := range some {
		ways := map[int]int64{}
		for _, result := range all(d) {
			ways[add(result)]++
		}
		l, e := dice.Sums(d)
		if e != api.OK || len(l) != len(ways) {
			t.Errorf("Sums of %v: %v, %d", d, l, e)
		}
		for i, x := range l {
			if x[1] != ways[int(x[0])] || i > 0 && x[0] <= l[i-1][0] {
				t.Errorf("Sums of %v: %v", d, l)
			}
		}
		for sum := -3; sum <= 363; sum++ {
			if n, e := dice.Ways(d, sum); n != ways[sum] || e != api.OK {
				t.Errorf("Ways of %v for %d: %d, %d", d, sum, n, e)
			}
		}
	}
	for _, sum := range []int{math.MinInt, math.MaxInt, 1 << 32, 7 + 1<<32} {
		if n, e := dice.Ways([][]int{six, six}, sum); n != 0 || e != api.OK {
			t.Errorf("Ways for %d: %d, %d", sum, n, e)
		}
	}
}

func TestSame(t *testing.T) {
	for _, x := range []struct {
		a, b [][]int
		want bool
	}{
		{[][]int{six, six}, sicherman, true},
		{sicherman, [][]int{six, six}, true},
		{[][]int{six, six}, ring, false},
		{[][]int{{1, 2}}, [][]int{{1, 2, 2}}, false},           // the same sums, not the same ways
		{[][]int{{1, 2}}, [][]int{{1, 1, 2, 2}}, false},        // nor twice as many
		{[][]int{{1, 2, 2}}, [][]int{{1, 1, 2}}, false},        // nor as many in all
		{[][]int{{1, 2}}, [][]int{{1, 3}}, false},              // nor the same numbers for other sums
		{[][]int{{0, 1}, {0, 2}}, [][]int{{0, 1, 2, 3}}, true}, // other numbers of dice
		{[][]int{{3}, {0, 1}}, [][]int{{1}, {2}, {0}, {0, 1}}, true},
		{[][]int{{1, 2}}, [][]int{{1, 2, 3}}, false},
		{[][]int{{1, 2, 3}}, [][]int{{1, 2}}, false},
	} {
		if is, e := dice.Same(x.a, x.b); is != x.want || e != api.OK {
			t.Errorf("Same of %v, %v: %t, %d", x.a, x.b, is, e)
		}
	}
}

// P1.5: all ways add up to the results; the order of the dice does not matter; ways of parts are multiplied.
func TestWaysAddUp(t *testing.T) {
	for _, d := range some {
		results, _ := dice.Results(d)
		sums, _ := dice.Sums(d)
		ways := int64(0)
		for _, x := range sums {
			ways += x[1]
		}
		if ways != results || results < 1 {
			t.Errorf("%v: %d ways, %d results", d, ways, results)
		}
		back := slices.Clone(d)
		slices.Reverse(back)
		other, _ := dice.Sums(back)
		equal(t, "Sums of the dice backwards", other, sums)
		if is, e := dice.Same(d, back); !is || e != api.OK {
			t.Errorf("Same of %v and backwards: %t, %d", d, is, e)
		}
		for k := 1; k < len(d); k++ {
			a, _ := dice.Sums(d[:k])
			b, _ := dice.Sums(d[k:])
			product := map[int64]int64{}
			for _, x := range a {
				for _, y := range b {
					product[x[0]+y[0]] += x[1] * y[1]
				}
			}
			if len(product) != len(sums) {
				t.Errorf("%v, put together at %d: %v", d, k, product)
			}
			for _, x := range sums {
				if product[x[0]] != x[1] {
					t.Errorf("%v, put together at %d: %v", d, k, product)
				}
			}
		}
	}
}
