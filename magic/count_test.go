package magic_test

import (
	"math"
	"math/big"
	"testing"

	"bibelot/api"
	"bibelot/magic"
)

// counts are the numbers of tables, of positive and of symmetric ones.
type counts [3]int64

func counted(t *testing.T, n, r int) counts {
	t.Helper()
	var c counts
	for i, f := range []func(n, r int) (int64, api.Errno){magic.Tables, magic.Positive, magic.Symmetric} {
		number, e := f(n, r)
		if e != api.OK {
			t.Errorf("%d, %d: %d", n, r, e)
		}
		c[i] = number
	}
	return c
}

// tried counts the tables by trying all numbers of all rows and columns but the last ones.
func tried(n, r int) counts {
	var c counts
	s := mapped(n, func(i, k int) int { return 0 })
	var put func(at int)
	put = func(at int) {
		if at == (n-1)*(n-1) {
			if finish(s, r) {
				c.add(s)
			}
			return
		}
		row, column := at/(n-1), at%(n-1)
		left := r
		for _, x := range s[row][:column] {
			left -= x
		}
		for x := range left + 1 {
			s[row][column] = x
			put(at + 1)
		}
	}
	put(0)
	return c
}

// finish puts what follows from the other numbers, and tells whether that is a table.
func finish(s [][]int, r int) bool {
	last := len(s) - 1
	for i := range last {
		s[i][last] = r
		for k := range last {
			s[i][last] -= s[i][k]
		}
	}
	for k := range s {
		s[last][k] = r
		for i := range last {
			s[last][k] -= s[i][k]
		}
	}
	for i := range s {
		if s[i][last] < 0 || s[last][i] < 0 {
			return false
		}
	}
	return true
}

func (c *counts) add(s [][]int) {
	positive, symmetric := int64(1), int64(1)
	for i, l := range s {
		for k, x := range l {
			if x == 0 {
				positive = 0
			}
			if x != s[k][i] {
				symmetric = 0
			}
		}
	}
	c[0]++
	c[1] += positive
	c[2] += symmetric
}

func TestCounts(t *testing.T) {
	most := []int{0, 20, 20, 20, 6}
	for n := 1; n <= 4; n++ {
		for r := 0; r <= most[n]; r++ {
			if got, want := counted(t, n, r), tried(n, r); got != want {
				t.Errorf("%d, %d: %v, want %v", n, r, got, want)
			}
		}
	}
}

func TestCountsKnown(t *testing.T) {
	for _, x := range []struct {
		n, r int
		want counts
	}{
		{1, 0, counts{1, 0, 1}}, {1, 1, counts{1, 1, 1}}, {1, 20, counts{1, 1, 1}}, {2, 0, counts{1, 0, 1}}, {2, 1, counts{2, 0, 2}}, {2, 20, counts{21, 19, 21}},
		{3, 1, counts{6, 0, 4}}, {3, 2, counts{21, 0, 11}}, {3, 3, counts{55, 1, 23}}, {4, 0, counts{1, 0, 1}}, {4, 1, counts{24, 0, 10}}, {4, 3, counts{2008, 0, 214}}, {4, 4, counts{10147, 1, 641}},
	} {
		if got := counted(t, x.n, x.r); got != x.want {
			t.Errorf("%d, %d: %v, want %v", x.n, x.r, got, x.want)
		}
	}
	for _, x := range [][2]int{{0, 0}, {0, 1}, {-1, 5}, {5, 0}, {5, 5}, {1, -1}, {4, -1}, {1, 21}, {4, 21}, {0, 21}, {math.MaxInt, 1}, {math.MinInt, 1}, {1, math.MaxInt}, {1, math.MinInt}, {1<<32 + 1, 1}, {1, 1 << 32}} {
		for i, f := range []func(n, r int) (int64, api.Errno){magic.Tables, magic.Positive, magic.Symmetric} {
			if number, e := f(x[0], x[1]); number != 0 || e != api.ErrArg {
				t.Errorf("count %d of %v: %d, %d", i, x, number, e)
			}
		}
	}
}

// P5.8: what the numbers of tables are, and how those of the others depend on them.
func TestMacMahon(t *testing.T) {
	choose := func(n, k int) int64 {
		return new(big.Int).Binomial(int64(n), int64(k)).Int64()
	}
	factorial := int64(1)
	for n := 1; n <= 4; n++ {
		factorial *= int64(n)
		if got := counted(t, n, 1)[0]; got != factorial {
			t.Errorf("Tables(%d, 1): %d", n, got)
		}
		for r := 0; r <= 20; r++ {
			c := counted(t, n, r)
			switch {
			case n == 1 && c[0] != 1, n == 2 && c[0] != int64(r+1), n == 3 && c[0] != choose(r+4, 4)+choose(r+3, 4)+choose(r+2, 4):
				t.Errorf("Tables(%d, %d): %d", n, r, c[0])
			}
			positive := int64(0)
			if r >= n {
				positive = counted(t, n, r-n)[0]
			}
			if c[1] != positive {
				t.Errorf("Positive(%d, %d): %d, want %d", n, r, c[1], positive)
			}
			if (c[0]-c[2])%2 != 0 {
				t.Errorf("Symmetric(%d, %d): %d, but Tables: %d", n, r, c[2], c[0])
			}
		}
	}
}

// The generating functions of the numbers: a polynomial over (1 - x)^up (1 + x)^down.
func TestSeries(t *testing.T) {
	for _, x := range []struct {
		n, i     int
		above    []int64
		up, down int
	}{
		{3, 0, []int64{1, 1, 1}, 5, 0}, {4, 0, []int64{1, 14, 87, 148, 87, 14, 1}, 10, 0},
		{3, 2, []int64{1, 1, 1}, 4, 1}, {4, 2, []int64{1, 4, 10, 4, 1}, 7, 1},
	} {
		series := append(x.above, make([]int64, 21-len(x.above))...)
		for range x.up {
			for r := 1; r <= 20; r++ {
				series[r] += series[r-1]
			}
		}
		for range x.down {
			for r := 1; r <= 20; r++ {
				series[r] -= series[r-1]
			}
		}
		for r, want := range series {
			if got := counted(t, x.n, r)[x.i]; got != want {
				t.Errorf("count %d of %d, %d: %d, want %d", x.i, x.n, r, got, want)
			}
		}
	}
}
