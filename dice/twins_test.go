package dice_test

import (
	"fmt"
	"math"
	"slices"
	"testing"

	"bibelot/api"
	"bibelot/dice"
)

// dieLists lists the dice with n sides from least to greatest that begin with least, in the order of lists.
func dieLists(n, least, greatest int) [][]int {
	lists := [][]int{{least}}
	for range n - 1 {
		var longer [][]int
		for _, list := range lists {
			for side := list[len(list)-1]; side <= greatest; side++ {
				longer = append(longer, append(slices.Clone(list), side))
			}
		}
		lists = longer
	}
	return lists
}

// twinsByTrying tries all pairs of dice. The greatest sides of twins add up as those of a and b.
func twinsByTrying(a, b []int) [][2][]int {
	top := a[len(a)-1] + b[len(b)-1]
	var want []int
	for _, result := range all([][]int{a, b}) {
		want = append(want, add(result))
	}
	slices.Sort(want)
	var found [][2][]int
	for _, c := range dieLists(len(a), a[0], min(60, top-b[0])) {
		for _, d := range dieLists(len(b), b[0], min(60, top-a[0])) {
			if c[len(c)-1]+d[len(d)-1] != top {
				continue
			}
			var got []int
			for _, result := range all([][]int{c, d}) {
				got = append(got, add(result))
			}
			slices.Sort(got)
			if slices.Equal(got, want) {
				found = append(found, [2][]int{c, d})
			}
		}
	}
	return found
}

func raised(die []int, by int) []int {
	var l []int
	for _, side := range die {
		l = append(l, side+by)
	}
	return l
}

func TestTwins(t *testing.T) {
	both := "[[[1 2 2 3 3 4] [1 3 4 5 6 8]] [[1 2 3 4 5 6] [1 2 3 4 5 6]] [[1 3 4 5 6 8] [1 2 2 3 3 4]]]"
	zeros := []int{0, 0, 0, 0, 0, 0, 0, 0}
	for _, x := range []struct {
		a, b []int
		want string
	}{
		{six, six, both},
		{sicherman[0], sicherman[1], both},
		{sicherman[1], sicherman[0], both},
		{[]int{3}, []int{0, 5}, "[[[3] [0 5]]]"},
		{[]int{0}, []int{60}, "[[[0] [60]]]"},
		{zeros, zeros, fmt.Sprint([][2][]int{{zeros, zeros}})},
		{[]int{0, 1}, []int{0, 2}, "[[[0 1] [0 2]] [[0 2] [0 1]]]"},
		{[]int{3, 5}, []int{10, 11}, "[[[3 4] [10 12]] [[3 5] [10 11]]]"}, // the least sides stay with their dice
		{[]int{0, 1, 2}, []int{0, 1}, "[[[0 1 2] [0 1]]]"},
		{[]int{0, 1}, []int{0, 2, 4}, "[[[0 1] [0 2 4]] [[0 3] [0 1 2]]]"},
		{[]int{0, 10, 20, 30, 40, 50}, []int{0, 10, 20, 30, 40, 50}, "[[[0 10 20 30 40 50] [0 10 20 30 40 50]]]"}, // 70 is no side
	} {
		l, e := dice.Twins(x.a, x.b)
		if e != api.OK {
			t.Errorf("Twins of %v, %v: error %d", x.a, x.b, e)
		}
		equal(t, fmt.Sprintf("Twins of %v, %v", x.a, x.b), l, x.want)
	}
}

// A side of 60 may come, one of 61 may not.
func TestTwinsGreatest(t *testing.T) {
	for _, x := range []struct {
		by   int
		want string
	}{
		{51, "[[[52 53 53 54 54 55] [1 3 4 5 6 8]] [[52 53 54 55 56 57] [1 2 3 4 5 6]] [[52 54 55 56 57 59] [1 2 2 3 3 4]]]"},
		{52, "[[[53 54 54 55 55 56] [1 3 4 5 6 8]] [[53 54 55 56 57 58] [1 2 3 4 5 6]] [[53 55 56 57 58 60] [1 2 2 3 3 4]]]"},
		{53, "[[[54 55 55 56 56 57] [1 3 4 5 6 8]] [[54 55 56 57 58 59] [1 2 3 4 5 6]]]"},
		{54, "[[[55 56 56 57 57 58] [1 3 4 5 6 8]] [[55 56 57 58 59 60] [1 2 3 4 5 6]]]"},
	} {
		l, e := dice.Twins(raised(six, x.by), six)
		if e != api.OK {
			t.Errorf("Twins: error %d", e)
		}
		equal(t, "Twins", l, x.want)
	}
}

func TestTwinsByTrying(t *testing.T) {
	for n := 1; n <= 3; n++ {
		for m := 1; m <= 3; m++ {
			for _, a := range dieLists(n, 0, 4) {
				for _, b := range dieLists(m, 1, 5) {
					l, e := dice.Twins(a, b)
					if e != api.OK {
						t.Fatalf("Twins of %v, %v: error %d", a, b, e)
					}
					equal(t, fmt.Sprintf("Twins of %v, %v", a, b), l, twinsByTrying(a, b))
				}
			}
		}
	}
	for _, x := range [][2][]int{
		{{1, 2, 3, 4}, {1, 2, 3, 4}}, {{0, 0, 1, 1}, {0, 1, 1, 2}}, {{0, 1, 4, 5}, {0, 2}}, {{0, 2, 4, 6}, {3, 4}},
	} {
		l, _ := dice.Twins(x[0], x[1])
		equal(t, fmt.Sprintf("Twins of %v", x), l, twinsByTrying(x[0], x[1]))
	}
}

// P1.7: twins have the same sums and are twins of one another; the dice themselves are among them.
func TestTwinsOfTwins(t *testing.T) {
	for _, x := range [][2][]int{
		{six, six}, {{1, 2, 3, 4}, {1, 2, 3, 4}}, {{1, 2, 3, 4, 5, 6, 7, 8}, {1, 2, 3, 4, 5, 6, 7, 8}}, {eight, eight},
		{{0, 1, 2, 3, 4, 5, 6, 7}, {0, 8, 16, 24, 32, 40, 48, 56}}, {{2, 2, 3, 3}, {0, 1, 1, 2}},
		{{0, 0, 0, 0, 1, 1, 1, 1}, {0, 0, 0, 0, 1, 1, 1, 1}}, {{1, 2, 3, 4}, six}, {{0, 2, 4, 6}, {1, 2}}, {{60}, {0}},
	} {
		l, e := dice.Twins(x[0], x[1])
		if e != api.OK {
			t.Errorf("Twins of %v: error %d", x, e)
		}
		self := false
		for i, twins := range l {
			c, d := twins[0], twins[1]
			self = self || slices.Equal(c, x[0]) && slices.Equal(d, x[1])
			if is, e := dice.Same(x[:], twins[:]); !is || e != api.OK {
				t.Errorf("Twins of %v: %v: Same %t, %d", x, twins, is, e)
			}
			if len(c) != len(x[0]) || len(d) != len(x[1]) || c[0] != x[0][0] || d[0] != x[1][0] {
				t.Errorf("Twins of %v: %v", x, twins)
			}
			if i > 0 {
				by := slices.Compare(l[i-1][0], c)
				if by > 0 || by == 0 && slices.Compare(l[i-1][1], d) >= 0 {
					t.Errorf("Twins of %v: %v comes before %v", x, l[i-1], twins)
				}
			}
			back, _ := dice.Twins(c, d)
			equal(t, fmt.Sprintf("Twins of the twins %v", twins), back, l)
		}
		if !self {
			t.Errorf("Twins of %v: %v", x, l)
		}
	}
}

// Dice 1 to n, n a power of 2: their twins share out the factors 1 + x, 1 + x^2, .., each of which comes twice.
func TestTwinsOfPowers(t *testing.T) {
	for n, want := range map[int]int{1: 1, 2: 1, 4: 3, 8: 7} {
		die := []int{1, 2, 3, 4, 5, 6, 7, 8}[:n]
		if l, e := dice.Twins(die, die); len(l) != want || e != api.OK {
			t.Errorf("Twins of 1 to %d: %v, %d", n, l, e)
		}
	}
}

func TestEven(t *testing.T) {
	for _, x := range []struct {
		n, m int
		want string
	}{
		{1, 1, "[[[0] [0]]]"},
		{1, 3, "[[[0] [0 1 2]]]"},
		{3, 1, "[[[0 1 2] [0]]]"},
		{2, 2, "[[[0 1] [0 2]] [[0 2] [0 1]]]"},
		{2, 3, "[[[0 1] [0 2 4]] [[0 3] [0 1 2]]]"},
		{3, 2, "[[[0 1 2] [0 3]] [[0 2 4] [0 1]]]"},
		{8, 1, "[[[0 1 2 3 4 5 6 7] [0]]]"},
		{2, 4, "[[[0 1] [0 2 4 6]] [[0 2] [0 1 4 5]] [[0 4] [0 1 2 3]]]"},
	} {
		l, e := dice.Even(x.n, x.m)
		if e != api.OK {
			t.Errorf("Even(%d, %d): error %d", x.n, x.m, e)
		}
		equal(t, fmt.Sprintf("Even(%d, %d)", x.n, x.m), l, x.want)
	}
}

// P1.8: as many even dice as chains; the greatest sides add up to n m - 1. Even dice are the twins of 0 .. n - 1 and 0, n .., (m - 1) n.
func TestEvenAndChains(t *testing.T) {
	for n := 1; n <= 8; n++ {
		for m := 1; m <= 8; m++ {
			l, e := dice.Even(n, m)
			k, f := dice.Chains(n, m)
			if e != api.OK || f != api.OK || int64(len(l)) != k || k < 1 {
				t.Errorf("Even(%d, %d): %v, %d; Chains: %d, %d", n, m, l, e, k, f)
			}
			for _, x := range l {
				sums, _ := dice.Sums(x[:])
				if len(x[0]) != n || len(x[1]) != m || x[0][0] != 0 || x[1][0] != 0 || len(sums) != n*m || x[0][n-1]+x[1][m-1] != n*m-1 {
					t.Errorf("Even(%d, %d): %v", n, m, x)
				}
				for sum, pair := range sums {
					if pair != [2]int64{int64(sum), 1} {
						t.Errorf("Even(%d, %d): %v shows %v", n, m, x, pair)
					}
				}
			}
			var a, b []int
			for i := range n {
				a = append(a, i)
			}
			for i := range m {
				b = append(b, i*n)
			}
			twins, _ := dice.Twins(a, b)
			equal(t, fmt.Sprintf("Even(%d, %d)", n, m), l, twins)
		}
	}
}

func TestChains(t *testing.T) {
	for _, x := range []struct {
		n, m int
		want int64
	}{
		{1, 1, 1}, {1, 2, 1}, {8, 1, 1}, {1, 6, 1}, {2, 2, 2}, {2, 3, 2}, {7, 5, 2}, {2, 4, 3}, {4, 2, 3}, {4, 4, 6}, {6, 6, 14}, {2, 8, 4}, {8, 8, 20},
	} {
		if n, e := dice.Chains(x.n, x.m); n != x.want || e != api.OK {
			t.Errorf("Chains(%d, %d): %d, %d, want %d", x.n, x.m, n, e, x.want)
		}
	}
}

func TestEvenOutOfRange(t *testing.T) {
	for _, x := range [][2]int{{0, 1}, {1, 0}, {1, 9}, {9, 1}, {-1, -1}, {8, -2}, {math.MinInt, 4}, {4, math.MaxInt}, {1 + 1<<32, 2}} {
		if l, e := dice.Even(x[0], x[1]); e != api.ErrArg || len(l) != 0 {
			t.Errorf("Even of %v: %v, %d", x, l, e)
		}
		if n, e := dice.Chains(x[0], x[1]); e != api.ErrArg || n != 0 {
			t.Errorf("Chains of %v: %d, %d", x, n, e)
		}
	}
}
