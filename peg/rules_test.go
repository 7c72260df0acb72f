package peg_test

import (
	"fmt"
	"maps"
	"slices"
	"testing"

	"bibelot/api"
	"bibelot/peg"
)

// isRule tells whether each line has an even number of its holes in the set.
func isRule(b board, set int) bool {
	for _, line := range b.lines {
		in := 0
		for _, hole := range line {
			if has(set, hole) {
				in++
			}
		}
		if in%2 == 1 {
			return false
		}
	}
	return true
}

func greatest(set int) int {
	hole := 0
	for 1<<(hole+1) <= set {
		hole++
	}
	return hole
}

// checkBasis tests all that makes a list the rules' basis, by trying all sets.
func checkBasis(t *testing.T, b board, basis []int) {
	t.Helper()
	made := map[int]bool{0: true}
	for i, rule := range basis {
		if rule <= 0 || !isRule(b, rule) || i > 0 && rule <= basis[i-1] {
			t.Errorf("Rules of %v: %v", b, basis)
			return
		}
		for k, other := range basis {
			if k != i && has(other, greatest(rule)) {
				t.Errorf("Rules of %v: %v: %d has the greatest hole of %d", b, basis, other, rule)
			}
		}
		for set := range maps.Clone(made) {
			if made[set^rule] {
				t.Errorf("Rules of %v: %v: %d comes in two ways", b, basis, set^rule)
			}
			made[set^rule] = true
		}
	}
	for set := range 1 << b.n {
		if made[set] != isRule(b, set) {
			t.Errorf("Rules of %v: %v: %d is made: %t", b, basis, set, made[set])
			return
		}
	}
}

func TestRules(t *testing.T) {
	boards := append(slices.Clone(small), square, triangle, row(7), row(10), dense(5, 30), dense(8, 40), board{10, nil})
	next := numbers(5)
	for range 60 {
		boards = append(boards, mixed(3+next(8), 1+next(12), next))
	}
	for _, b := range boards {
		basis, e := peg.Rules(b.n, b.lines)
		if e != api.OK {
			t.Errorf("Rules of %v: error %d", b, e)
		}
		checkBasis(t, b, basis)
	}
	for _, b := range []board{{16, nil}, row(16), dense(16, 40)} {
		basis, _ := peg.Rules(b.n, b.lines)
		checkBasis(t, b, basis)
	}
}

func TestRulesKnown(t *testing.T) {
	for _, x := range []struct {
		board
		want string
	}{
		{row(1), "[1]"}, {row(2), "[1 2]"}, {row(3), "[3 5]"}, {row(4), "[6 11]"}, {row(5), "[13 22]"},
		{board{3, nil}, "[1 2 4]"},
		{dense(4, 12), "[]"}, // any three of four holes make a line
		{dense(3, 3), "[3 5]"},
		{square, "[27 45 195 325]"},
	} {
		basis, e := peg.Rules(x.n, x.lines)
		equal(t, fmt.Sprint("Rules of ", x.board), fmt.Sprint(basis, e), x.want+" 0")
	}
}

// P2.7: a row of at least two holes has two rules.
func TestRulesOfRows(t *testing.T) {
	for n := 1; n <= 16; n++ {
		b := row(n)
		basis, e := peg.Rules(n, b.lines)
		if len(basis) != min(n, 2) || e != api.OK {
			t.Errorf("Rules of a row of %d: %v, %d", n, basis, e)
		}
	}
}

func TestAlike(t *testing.T) {
	for _, b := range append(slices.Clone(small), board{6, nil}) {
		for p := range 1 << b.n {
			for q := range 1 << b.n {
				want := true
				for set := range 1 << b.n {
					if isRule(b, set) && (count(set&p)-count(set&q))%2 != 0 {
						want = false
					}
				}
				if is, e := peg.Alike(b.n, b.lines, p, q); is != want || e != api.OK {
					t.Errorf("Alike of %d and %d on %v: %t, %d", p, q, b, is, e)
				}
			}
		}
	}
	for _, x := range []struct {
		board
		p, q int
		want bool
	}{
		{row(4), 3, 8, false}, {row(4), 3, 4, true}, {row(4), 13, 2, false}, {row(4), 13, 4, true}, {row(4), 0, 7, true},
		{row(16), 7, 7 << 13, true}, {row(16), 0, 1 << 15, false}, {row(16), 1, 1 << 15, true}, {row(16), 1, 1 << 14, false},
		{board{16, nil}, 65535, 65535, true}, {board{16, nil}, 65535, 65534, false},
	} {
		if is, e := peg.Alike(x.n, x.lines, x.p, x.q); is != x.want || e != api.OK {
			t.Errorf("Alike of %d and %d on %v: %t, %d", x.p, x.q, x.board, is, e)
		}
	}
}
