package magic_test

import (
	"fmt"
	"math"
	"slices"
	"sync"
	"testing"

	"bibelot/api"
	"bibelot/magic"
)

// magicSquares are all of order n, up to 4. The first row, the first column and the diagonal between their ends are filled first, so that the other numbers follow soon.
func magicSquares(n int) [][][]int {
	var order [][2]int
	for part := range 3 {
		for i := range n {
			for k := range n {
				p := [2]int{i, k}
				if (part == 2 || part == 1 && i+k == n-1 || part == 0 && i*k == 0) && !slices.Contains(order, p) {
					order = append(order, p)
				}
			}
		}
	}
	var found [][][]int
	s := mapped(n, func(i, k int) int { return 0 })
	used := make([]bool, n*n+1)
	var put func(at int)
	put = func(at int) {
		if at == n*n {
			if kindsOf(s)[1] {
				found = append(found, cloned(s))
			}
			return
		}
		number := &s[order[at][0]][order[at][1]]
		for x := 1; x <= n*n; x++ {
			*number = x
			if !used[x] && mayBeMagic(s, order[at][0], order[at][1]) {
				used[x] = true
				put(at + 1)
				used[x] = false
			}
		}
		*number = 0
	}
	put(0)
	return found
}

// mayBeMagic looks at the row and the column of a place and at the diagonals: the sums of the full ones must be right, those of others less.
func mayBeMagic(s [][]int, row, column int) bool {
	n := len(s)
	var sums, open [4]int
	for i := range n {
		for j, x := range [4]int{s[row][i], s[i][column], s[i][i], s[i][n-1-i]} {
			sums[j] += x
			if x == 0 {
				open[j]++
			}
		}
	}
	for j, sum := range sums {
		missing := n*(n*n+1)/2 - sum
		if missing < 0 || (missing == 0) != (open[j] == 0) {
			return false
		}
	}
	return true
}

// fours are the magic squares of order 4.
var fours = sync.OnceValue(func() [][][]int {
	return magicSquares(4)
})

func fits(filling, open [][]int) bool {
	for i, l := range open {
		for k, x := range l {
			if x != 0 && x != filling[i][k] {
				return false
			}
		}
	}
	return true
}

// checkFillings tests what is said of an open square, with all magic squares of its order.
func checkFillings(t *testing.T, open [][]int, all [][][]int) int {
	t.Helper()
	want := 0
	for _, s := range all {
		if fits(s, open) {
			want++
		}
	}
	for _, most := range []int{1, 2, want - 1, want, want + 1, 8000} {
		if most < 1 {
			continue
		}
		if many, e := magic.Fillings(open, most); many != min(want, most) || e != api.OK {
			t.Errorf("Fillings of %v, %d: %d, %d, want %d", open, most, many, e, want)
		}
	}
	s, ok, e := magic.Fill(open)
	if ok != (want > 0) || e != api.OK || len(s) != 0 && !ok || ok && (len(s) != len(open) || magic.Check(s) != api.OK || !kindsOf(s)[1] || !fits(s, open)) {
		t.Errorf("Fill of %v: %v, %t, %d, want one of %d", open, s, ok, e, want)
	}
	return want
}

func TestFillKnown(t *testing.T) {
	all := [][][][]int{nil, magicSquares(1), magicSquares(2), magicSquares(3), fours()}
	for _, x := range []struct {
		open [][]int
		want int
	}{
		{[][]int{{0, 0, 0}, {0, 5, 0}, {0, 0, 0}}, 8}, {[][]int{{0, 0, 0}, {0, 1, 0}, {0, 0, 0}}, 0}, {[][]int{{0, 0, 0}, {0, 0, 0}, {0, 0, 0}}, 8},
		{[][]int{{2, 0, 0}, {0, 0, 0}, {0, 0, 0}}, 2}, {[][]int{{0, 1, 0}, {0, 0, 0}, {0, 0, 0}}, 2}, {[][]int{{0, 2, 0}, {0, 0, 0}, {0, 0, 0}}, 0},
		{loShu(), 1}, {natural(3), 0}, {[][]int{{2, 7, 6}, {9, 5, 1}, {4, 8, 3}}, 0}, {[][]int{{2, 7, 6}, {9, 5, 1}, {0, 0, 0}}, 1},
		{[][]int{{1}}, 1}, {[][]int{{0}}, 1}, {[][]int{{0, 0}, {0, 0}}, 0}, {[][]int{{1, 0}, {0, 0}}, 0}, {[][]int{{1, 2}, {3, 4}}, 0}, {[][]int{{1, 4}, {0, 0}}, 0},
		{durer(), 1}, {nasik(), 1}, {natural(4), 0}, {[][]int{{16, 3, 2, 13}, {5, 10, 11, 8}, {9, 6, 7, 12}, {4, 15, 0, 0}}, 1},
	} {
		if many, e := magic.Fillings(x.open, 100); many != x.want || e != api.OK {
			t.Errorf("Fillings of %v: %d, %d, want %d", x.open, many, e, x.want)
		}
		checkFillings(t, x.open, all[len(x.open)])
	}
	if s, ok, e := magic.Fill(loShu()); !equal(s, loShu()) || !ok || e != api.OK {
		t.Errorf("Fill: %v, %t, %d", s, ok, e)
	}
}

// All open squares of the orders 1 and 2; of order 3 all with up to three numbers, and all parts of magic squares.
func TestFillSmall(t *testing.T) {
	for n := 1; n <= 2; n++ {
		all := magicSquares(n)
		everyOpen(n, n*n, func(open [][]int) {
			checkFillings(t, open, all)
		})
	}
	all := magicSquares(3)
	everyOpen(3, 3, func(open [][]int) {
		checkFillings(t, open, all)
	})
	for _, s := range all {
		for kept := range 1 << 9 {
			open := mapped(3, func(i, k int) int { return s[i][k] * (kept >> (3*i + k) & 1) })
			if checkFillings(t, open, all) == 0 {
				t.Errorf("no filling of %v", open)
			}
		}
	}
}

// everyOpen visits the open squares of order n with up to so many numbers.
func everyOpen(n, most int, visit func([][]int)) {
	open := mapped(n, func(i, k int) int { return 0 })
	used := make([]bool, n*n+1)
	var put func(at, left int)
	put = func(at, left int) {
		if at == n*n {
			visit(open)
			return
		}
		put(at+1, left)
		for x := 1; x <= n*n && left > 0; x++ {
			if !used[x] {
				used[x] = true
				open[at/n][at%n] = x
				put(at+1, left-1)
				open[at/n][at%n] = 0
				used[x] = false
			}
		}
	}
	put(0, most)
}

// Parts of the magic squares of order 4, as they are and with two places exchanged.
func TestFillFour(t *testing.T) {
	all := fours()
	next := numbers(6)
	for range 1000 {
		s := all[next(len(all))]
		opened := 2 + next(10)
		open := mapped(4, func(i, k int) int { return s[i][k] * min(1, next(16)/opened) })
		if checkFillings(t, open, all) == 0 {
			t.Errorf("no filling of %v", open)
		}
		a, b, c, d := next(4), next(4), next(4), next(4)
		open[a][b], open[c][d] = open[c][d], open[a][b]
		checkFillings(t, open, all)
	}
	for range 10 { // few numbers
		open := mapped(4, func(i, k int) int { return 0 })
		for _, x := range []int{1 + next(5), 6 + next(5), 11 + next(6)} {
			open[next(4)][next(4)] = x
		}
		checkFillings(t, open, all)
	}
	for range 200 { // all numbers
		checkFillings(t, shuffled(4, next), all)
	}
}

// P5.7: 8 of order 3, all associated, and 7040 of order 4.
func TestFrenicle(t *testing.T) {
	for _, x := range []struct{ n, many, pandiagonal, associated int }{{1, 1, 1, 1}, {2, 0, 0, 0}, {3, 8, 0, 8}, {4, 7040, 384, 384}} {
		all := fours()
		if x.n < 4 {
			all = magicSquares(x.n)
		}
		checkFillings(t, mapped(x.n, func(i, k int) int { return 0 }), all)
		pandiagonal, associated := 0, 0
		for _, s := range all {
			want := kindsOf(s)
			checkKinds(t, s, want)
			if want[2] {
				pandiagonal++
			}
			if want[3] {
				associated++
			}
		}
		if len(all) != x.many || pandiagonal != x.pandiagonal || associated != x.associated {
			t.Errorf("order %d: %d, %d, %d", x.n, len(all), pandiagonal, associated)
		}
	}
	if many, e := magic.Fillings(mapped(4, func(i, k int) int { return 0 }), 8000); many != 7040 || e != api.OK {
		t.Errorf("Fillings: %d, %d", many, e)
	}
}

func TestFillInvalid(t *testing.T) {
	for _, s := range [][][]int{
		{{2}}, {{-1}}, {{math.MaxInt}}, {{math.MinInt}}, {{1 << 32}}, {{1, 1}, {0, 0}}, {{0, 4}, {4, 0}}, {{5, 0}, {0, 0}}, {{0, 0}, {0, -1}}, {{0, 0, 0}, {0, 10, 0}, {0, 0, 0}},
		{{2, 7, 6}, {9, 5, 1}, {4, 3, 2}}, {{0, 0, 0}, {0, 0, 0}, {0, 3, 3}}, {{17, 0, 0, 0}, {0, 0, 0, 0}, {0, 0, 0, 0}, {0, 0, 0, 0}}, {{0, 0, 0, 16}, {0, 0, 0, 0}, {0, 0, 0, 0}, {16, 0, 0, 0}},
		five(), mapped(5, func(i, k int) int { return 0 }), natural(6), natural(7), natural(8), mapped(8, func(i, k int) int { return 0 }),
	} {
		if got, ok, e := magic.Fill(s); len(got) != 0 || ok || e != api.ErrSquare {
			t.Errorf("Fill of %v: %v, %t, %d", s, got, ok, e)
		}
		for _, most := range []int{1, 8000, 0, -1, 8001} { // the square is examined first
			if many, e := magic.Fillings(s, most); many != 0 || e != api.ErrSquare {
				t.Errorf("Fillings of %v, %d: %d, %d", s, most, many, e)
			}
		}
	}
	for _, most := range []int{0, -1, 8001, 1 << 40, math.MaxInt, math.MinInt} {
		for _, s := range [][][]int{loShu(), natural(3), {{0}}} {
			if many, e := magic.Fillings(s, most); many != 0 || e != api.ErrArg {
				t.Errorf("Fillings of %v, %d: %d, %d", s, most, many, e)
			}
		}
	}
	for _, most := range []int{1, 8000} {
		if many, e := magic.Fillings([][]int{{0}}, most); many != 1 || e != api.OK {
			t.Errorf("Fillings up to %d: %d, %d", most, many, e)
		}
	}
}

// Calls of the same arguments have the same results (R7).
func TestFillAgain(t *testing.T) {
	open := mapped(4, func(i, k int) int { return 0 })
	want := ""
	for range 5 {
		s, ok, e := magic.Fill(open)
		if got := fmt.Sprint(s, ok, e); want == "" {
			want = got
		} else if got != want {
			t.Errorf("Fill: %s, then %s", want, got)
		}
	}
}
