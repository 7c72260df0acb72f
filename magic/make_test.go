package magic_test

import (
	"math"
	"testing"

	"bibelot/api"
	"bibelot/magic"
)

func TestMake(t *testing.T) {
	for n := 1; n <= 8; n++ {
		s, e := magic.Make(n)
		if n == 2 {
			if len(s) != 0 || e != api.ErrNone {
				t.Errorf("Make(2): %v, %d", s, e)
			}
		} else if len(s) != n || magic.Check(s) != api.OK || !kindsOf(s)[1] || e != api.OK {
			t.Errorf("Make(%d): %v, %d", n, s, e)
		}
	}
	for n := 1; n <= 8; n++ {
		s, e := magic.MakePandiagonal(n)
		if n == 2 || n == 3 || n == 6 {
			if len(s) != 0 || e != api.ErrNone {
				t.Errorf("MakePandiagonal(%d): %v, %d", n, s, e)
			}
		} else if len(s) != n || magic.Check(s) != api.OK || !kindsOf(s)[2] || e != api.OK {
			t.Errorf("MakePandiagonal(%d): %v, %d", n, s, e)
		}
	}
	for _, n := range []int{0, -1, -2, -3, -6, 9, 10, 12, 16, 1<<32 + 4, math.MaxInt, math.MinInt} {
		if s, e := magic.Make(n); len(s) != 0 || e != api.ErrArg {
			t.Errorf("Make(%d): %v, %d", n, s, e)
		}
		if s, e := magic.MakePandiagonal(n); len(s) != 0 || e != api.ErrArg {
			t.Errorf("MakePandiagonal(%d): %v, %d", n, s, e)
		}
	}
}

// Opposite does what it says, twice leads back, and keeps what a square is (P5.6).
func TestOpposite(t *testing.T) {
	next := numbers(3)
	for n := 1; n <= 8; n++ {
		for _, s := range normalSquares(n, next) {
			want := mapped(n, func(i, k int) int { return n*n + 1 - s[i][k] })
			got, e := magic.Opposite(s)
			if !equal(got, want) || e != api.OK {
				t.Errorf("Opposite of %v: %v, %d", s, got, e)
				continue
			}
			checkKinds(t, got, kindsOf(s))
			if back, e := magic.Opposite(got); !equal(back, s) || e != api.OK {
				t.Errorf("Opposite of %v: %v, %d", got, back, e)
			}
		}
	}
	if s, e := magic.Opposite(loShu()); !equal(s, [][]int{{8, 3, 4}, {1, 5, 9}, {6, 7, 2}}) || e != api.OK {
		t.Errorf("Opposite: %v, %d", s, e)
	}
}

// notNormal are squares that are not normal.
func notNormal() [][][]int {
	return [][][]int{
		{{0}}, {{2}}, {{-1}}, {{math.MaxInt}}, {{math.MinInt}}, {{1, 2}, {3, 3}}, {{0, 1}, {2, 3}}, {{1, 2}, {3, 5}}, {{1, 2}, {3, 1<<32 + 4}}, {{1, 1}, {1, 1}},
		{{1, 2, 3}, {4, 5, 6}, {7, 8, 0}}, {{1, 2, 3}, {4, 5, 6}, {7, 8, 10}}, {{1, 2, 3}, {4, 5, 6}, {7, 8, 7}},
		mapped(8, func(i, k int) int { return 8*i + k }), mapped(8, func(i, k int) int { return 8*i + k + 2 }), mapped(8, func(i, k int) int { return 0 }),
	}
}

func TestNotNormal(t *testing.T) {
	for _, s := range notNormal() {
		if got, e := magic.Opposite(s); len(got) != 0 || e != api.ErrArg {
			t.Errorf("Opposite of %v: %v, %d", s, got, e)
		}
		for _, pair := range [][2][][]int{{s, {{1}}}, {{{1}}, s}, {s, s}, {natural(2), s}, {s, natural(2)}} {
			if got, e := magic.Compose(pair[0], pair[1]); len(got) != 0 || e != api.ErrArg {
				t.Errorf("Compose of %v: %v, %d", pair, got, e)
			}
		}
	}
}

func TestCompose(t *testing.T) {
	next := numbers(4)
	for m := 1; m <= 8; m++ {
		for n := 1; n <= 8; n++ {
			for range 10 {
				a, b := shuffled(m, next), shuffled(n, next)
				got, e := magic.Compose(a, b)
				if m*n > 8 {
					if len(got) != 0 || e != api.ErrArg {
						t.Errorf("Compose of %v, %v: %v, %d", a, b, got, e)
					}
					continue
				}
				want := mapped(m*n, func(i, k int) int { return n*n*(a[i/n][k/n]-1) + b[i%n][k%n] })
				if !equal(got, want) || e != api.OK || !kindsOf(want)[0] {
					t.Errorf("Compose of %v, %v: %v, %d", a, b, got, e)
				}
			}
		}
	}
	for _, x := range []struct{ a, b, want [][]int }{
		{[][]int{{1, 2}, {3, 4}}, [][]int{{4, 3}, {2, 1}}, [][]int{{4, 3, 8, 7}, {2, 1, 6, 5}, {12, 11, 16, 15}, {10, 9, 14, 13}}},
		{[][]int{{4, 3}, {2, 1}}, [][]int{{1, 2}, {3, 4}}, [][]int{{13, 14, 9, 10}, {15, 16, 11, 12}, {5, 6, 1, 2}, {7, 8, 3, 4}}},
		{[][]int{{1}}, [][]int{{1}}, [][]int{{1}}}, {loShu(), [][]int{{1}}, loShu()}, {[][]int{{1}}, loShu(), loShu()},
	} {
		if got, e := magic.Compose(x.a, x.b); !equal(got, x.want) || e != api.OK {
			t.Errorf("Compose of %v, %v: %v, %d", x.a, x.b, got, e)
		}
	}
}

// P5.6: Compose of magic squares is magic. Up to order 8 one of them is of order 1.
func TestComposeMagic(t *testing.T) {
	for m := 1; m <= 8; m++ {
		for n := 1; m*n <= 8; n++ {
			a, e := magic.Make(m)
			b, f := magic.Make(n)
			if e != api.OK || f != api.OK {
				continue
			}
			if s, e := magic.Compose(a, b); e != api.OK || len(s) != m*n || !kindsOf(s)[1] {
				t.Errorf("Compose of %v, %v: %v, %d", a, b, s, e)
			}
		}
	}
}
