package light

import (
	"bibelot/api"
)

const (
	maxSide  = 60  // of a grid whose quiet sets are counted
	maxIndex = 200 // of a polynomial
)

// Grid returns the number of lamps and the edges of a grid.
func Grid(r, c int) (int, [][2]int, api.Errno) {
	// A side is compared by itself first: the product of great ones may be out of range.
	if r < 1 || c < 1 || r > maxLamps || c > maxLamps || r*c > maxLamps {
		return 0, nil, api.ErrArg
	}
	var edges [][2]int
	for lamp := range r * c {
		if lamp%c < c-1 {
			edges = append(edges, [2]int{lamp, lamp + 1})
		}
		if lamp/c < r-1 {
			edges = append(edges, [2]int{lamp, lamp + c})
		}
	}
	return r * c, edges, api.OK
}

// GridQuiet returns the number of sets in the quiet basis of a grid, which is the degree of a common divisor of polynomials (P4.8).
func GridQuiet(r, c int, own bool) (int, api.Errno) {
	if !isSide(r) || !isSide(c) {
		return 0, api.ErrArg
	}
	return divisor(member(c+1, false), member(r+1, own)).degree(), api.OK
}

func isSide(n int) bool {
	return n >= 1 && n <= maxSide
}

// Polynomial returns the powers of x in f(k) whose coefficient is 1, rising.
func Polynomial(k int) ([]int, api.Errno) {
	if k < 0 || k > maxIndex {
		return nil, api.ErrArg
	}
	var powers []int
	for power, bit := range member(k, false) {
		if bit == 1 {
			powers = append(powers, power)
		}
	}
	return powers, api.OK
}

// polynomial holds the coefficients modulo 2, from that of x^0 on. Its last one is 1; the polynomial 0 has none.
type polynomial []uint8

func (f polynomial) degree() int {
	return len(f) - 1
}

// plus is f with x^shift g added.
func (f polynomial) plus(shift int, g polynomial) polynomial {
	sum := make(polynomial, max(len(f), shift+len(g)))
	copy(sum, f)
	for power, bit := range g {
		sum[shift+power] ^= bit
	}
	return cut(sum)
}

// cut returns a copy of a list without the zeros at its end.
func cut[E comparable](list []E) []E {
	out := make([]E, len(list))
	copy(out, list)
	var zero E
	n := len(out)
	for n > 0 && out[n-1] == zero {
		n--
	}
	// No more than this is the list's: who appends to it gets new memory.
	return out[:n:n]
}

// member is f(k), with x + 1 in the place of x if so asked.
func member(k int, shifted bool) polynomial {
	before, f := polynomial{1}, polynomial{} // f(-1), as f(1) = x f(0) + f(-1), and f(0)
	for range k {
		next := before.plus(1, f)
		if shifted {
			next = next.plus(0, f)
		}
		before, f = f, next
	}
	return f
}

// divisor is the greatest common divisor of two polynomials.
func divisor(f, g polynomial) polynomial {
	for len(g) > 0 {
		f, g = g, remainder(f, g)
	}
	return f
}

// remainder is what a division of f by g, which is not 0, leaves.
func remainder(f, g polynomial) polynomial {
	for len(f) >= len(g) {
		f = f.plus(len(f)-len(g), g)
	}
	return f
}
