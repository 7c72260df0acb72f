package light_test

import (
	"fmt"
	"math"
	"math/big"
	"slices"
	"testing"

	"bibelot/api"
	"bibelot/light"
)

func TestGrid(t *testing.T) {
	for r := 1; r <= 16; r++ {
		for c := 1; r*c <= 16; c++ {
			// All pairs of lamps that lie next to one another, by their rows and columns.
			var want [][2]int
			for a := range r * c {
				for b := a + 1; b < r*c; b++ {
					down, right := b/c-a/c, b%c-a%c
					if down*down+right*right == 1 {
						want = append(want, [2]int{a, b})
					}
				}
			}
			n, edges, e := light.Grid(r, c)
			if n != r*c || !slices.Equal(edges, want) || e != api.OK {
				t.Errorf("Grid of %d, %d: %d, %v, %d, want %v", r, c, n, edges, e, want)
			}
			if e := light.Check(n, edges); e != api.OK {
				t.Errorf("Check of the grid of %d, %d: %d", r, c, e)
			}
		}
	}
	for _, x := range []struct {
		r, c int
		want string
	}{
		{1, 1, "1 [] 0"}, {1, 3, "3 [[0 1] [1 2]] 0"}, {3, 1, "3 [[0 1] [1 2]] 0"},
		{2, 3, "6 [[0 1] [0 3] [1 2] [1 4] [2 5] [3 4] [4 5]] 0"},
	} {
		n, edges, e := light.Grid(x.r, x.c)
		if got := fmt.Sprint(n, edges, e); got != x.want {
			t.Errorf("Grid of %d, %d: %s, want %s", x.r, x.c, got, x.want)
		}
	}
}

func TestGridInvalid(t *testing.T) {
	for _, x := range [][2]int{
		{0, 0}, {0, 1}, {1, 0}, {-1, 3}, {3, -1}, {-2, -2}, {-1, -1}, {0, 17}, {17, 0}, {1, 17}, {17, 1}, {4, 5}, {5, 4}, {3, 6}, {6, 3}, {9, 2}, {16, 2},
		{1 << 32, 1 << 32}, {1 << 63 >> 1, 2}, {2, 1 << 62}, {4, 1 << 62}, {1 << 62, 4}, {1<<32 + 1, 1 << 32}, {math.MaxInt, math.MaxInt}, {math.MinInt, math.MinInt}, {math.MaxInt, 1}, {1, math.MaxInt}, {math.MinInt, 1}, {math.MinInt, 2},
	} {
		if n, edges, e := light.Grid(x[0], x[1]); n != 0 || len(edges) != 0 || e != api.ErrArg {
			t.Errorf("Grid of %v: %d, %v, %d", x, n, edges, e)
		}
	}
}

// byRows is the number of sets in the quiet basis of a grid, found without polynomials: what is pressed in the first row decides what must be pressed in each next one, so that the row before it stays as it is; it is quiet if nothing need be pressed in a row after the last one.
func byRows(r, c int, own bool) int {
	basis := map[int]uint64{} // what must be pressed after the last row, by its greatest column
	quiet := 0
	for column := range c {
		before, row := uint64(0), uint64(1)<<column
		for range r {
			next := before ^ row<<1&(1<<c-1) ^ row>>1
			if own {
				next ^= row
			}
			before, row = row, next
		}
		for top := c - 1; top >= 0; top-- {
			if row>>top&1 == 0 {
				continue
			}
			if basis[top] == 0 {
				basis[top] = row
				break
			}
			row ^= basis[top]
		}
		if row == 0 {
			quiet++
		}
	}
	return quiet
}

func TestGridQuiet(t *testing.T) {
	for r := 1; r <= 60; r++ {
		for c := 1; c <= 60; c++ {
			for _, own := range []bool{false, true} {
				if k, e := light.GridQuiet(r, c, own); k != byRows(r, c, own) || e != api.OK {
					t.Errorf("GridQuiet of %d, %d, %t: %d, %d, want %d", r, c, own, k, e, byRows(r, c, own))
				}
			}
		}
	}
	for r := 1; r <= 16; r++ {
		for c := 1; r*c <= 16; c++ {
			n, edges, _ := light.Grid(r, c)
			for _, own := range []bool{false, true} {
				basis, e := light.Quiet(n, edges, own)
				if k, f := light.GridQuiet(r, c, own); len(basis) != k || e != api.OK || f != api.OK {
					t.Errorf("GridQuiet of %d, %d, %t: %d, %d, but the basis is %v, %d", r, c, own, k, f, basis, e)
				}
			}
		}
	}
}

func TestGridQuietKnown(t *testing.T) {
	for _, x := range []struct {
		r, c int
		own  bool
		want int
	}{
		{1, 1, true, 0}, {1, 1, false, 1}, {3, 3, true, 0}, {4, 4, true, 4}, {5, 5, true, 2}, {9, 9, true, 8}, {19, 19, true, 16},
		{5, 5, false, 5}, {60, 60, false, 60}, {2, 3, false, 0}, {1, 59, true, 1}, {59, 1, true, 1}, {1, 60, true, 0}, {60, 1, false, 0},
	} {
		if k, e := light.GridQuiet(x.r, x.c, x.own); k != x.want || e != api.OK {
			t.Errorf("GridQuiet of %d, %d, %t: %d, %d, want %d", x.r, x.c, x.own, k, e, x.want)
		}
	}
	for _, x := range [][2]int{{0, 1}, {1, 0}, {0, 0}, {61, 1}, {1, 61}, {61, 61}, {-1, 5}, {5, -1}, {math.MaxInt, 1}, {1, math.MaxInt}, {math.MinInt, math.MinInt}, {60, 1 << 40}} {
		for _, own := range []bool{false, true} {
			if k, e := light.GridQuiet(x[0], x[1], own); k != 0 || e != api.ErrArg {
				t.Errorf("GridQuiet of %v, %t: %d, %d", x, own, k, e)
			}
		}
	}
}

// The coefficient of x^(k-1-2j) in f(k) is the number of choices of j of k-1-j things.
func TestPolynomial(t *testing.T) {
	for k := 0; k <= 200; k++ {
		var want []int
		for j := k; j >= 0; j-- {
			if power := k - 1 - 2*j; power >= 0 && new(big.Int).Binomial(int64(k-1-j), int64(j)).Bit(0) == 1 {
				want = append(want, power)
			}
		}
		if l, e := light.Polynomial(k); !slices.Equal(l, want) || e != api.OK {
			t.Errorf("Polynomial(%d): %v, %d, want %v", k, l, e, want)
		}
	}
	for k, want := range []string{"[]", "[0]", "[1]", "[0 2]", "[3]", "[0 2 4]", "[1 5]", "[0 4 6]", "[7]"} {
		if l, e := light.Polynomial(k); fmt.Sprint(l) != want || e != api.OK {
			t.Errorf("Polynomial(%d): %v, %d, want %s", k, l, e, want)
		}
	}
	for _, k := range []int{-1, 201, 1 << 40, math.MaxInt, math.MinInt} {
		if l, e := light.Polynomial(k); len(l) != 0 || e != api.ErrArg {
			t.Errorf("Polynomial(%d): %v, %d", k, l, e)
		}
	}
}

// poly has the coefficients of a polynomial modulo 2 as bits.
type poly = big.Int

func times(a, b *poly) *poly {
	out := new(poly)
	for i := range b.BitLen() {
		if b.Bit(i) == 1 {
			out.Xor(out, new(poly).Lsh(a, uint(i)))
		}
	}
	return out
}

func divisor(a, b *poly) *poly {
	for b.BitLen() > 0 {
		rest := new(poly).Set(a)
		for rest.BitLen() >= b.BitLen() {
			rest.Xor(rest, new(poly).Lsh(b, uint(rest.BitLen()-b.BitLen())))
		}
		a, b = b, rest
	}
	return a
}

// at is f(k) by its powers, with y in the place of x.
func at(k int, y *poly) *poly {
	sum, power := new(poly), big.NewInt(1)
	powers, _ := light.Polynomial(k)
	for i := range k {
		if slices.Contains(powers, i) {
			sum.Xor(sum, power)
		}
		power = times(power, y)
	}
	return sum
}

// P4.8: GridQuiet is the degree of a common divisor of what Polynomial returns.
func TestSutner(t *testing.T) {
	x, y := big.NewInt(2), big.NewInt(3)
	for r := 1; r <= 60; r++ {
		for c := 1; c <= 60; c++ {
			for _, own := range []bool{false, true} {
				other := at(r+1, x)
				if own {
					other = at(r+1, y)
				}
				want := divisor(at(c+1, x), other).BitLen() - 1
				if k, e := light.GridQuiet(r, c, own); k != want || e != api.OK {
					t.Errorf("GridQuiet of %d, %d, %t: %d, %d, want %d", r, c, own, k, e, want)
				}
			}
		}
	}
}
