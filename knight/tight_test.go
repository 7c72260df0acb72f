package knight_test

import (
	"math/bits"
	"testing"

	"bibelot/api"
	"bibelot/knight"
)

// isTight follows the definition.
func isTight(r, c, set int, moves []int) bool {
	around := 0
	for square := range r * c {
		if set>>square&1 == 1 {
			around |= moves[square]
		}
	}
	if set == 0 || bits.OnesCount(uint(around)) > bits.OnesCount(uint(set)) {
		return false
	}
	for which := range 2 {
		own, other := side(r, c, which), side(r, c, 1-which)
		if set&^own == 0 {
			return set != own || bits.OnesCount(uint(other)) < bits.OnesCount(uint(own))
		}
	}
	return false
}

// hasTight tries all sets of squares of each colour.
func hasTight(r, c int) bool {
	moves := words(r, c)
	for which := range 2 {
		own := side(r, c, which)
		for set := own; set != 0; set = (set - 1) & own {
			if isTight(r, c, set, moves) {
				return true
			}
		}
	}
	return false
}

func TestTight(t *testing.T) {
	for _, x := range boards() {
		r, c := x[0], x[1]
		set, is, e := knight.Tight(r, c)
		if is != hasTight(r, c) || is && !isTight(r, c, set, words(r, c)) || !is && set != 0 || e != api.OK {
			t.Errorf("Tight of %v: %d, %t, %d", x, set, is, e)
		}
		if tight, e := knight.IsTight(r, c, set); tight != is || e != api.OK {
			t.Errorf("IsTight of %v, %d: %t, %d", x, set, tight, e)
		}
	}
	for _, x := range []struct {
		r, c int
		want bool
	}{{1, 1, true}, {1, 2, false}, {2, 1, false}, {1, 3, true}, {2, 2, true}, {3, 3, true}, {3, 4, true}, {4, 4, true}, {5, 5, true}, {5, 7, true}, {4, 8, true}, {5, 6, false}, {6, 6, false}} {
		if _, is, e := knight.Tight(x.r, x.c); is != x.want || e != api.OK {
			t.Errorf("Tight of %v: %t, %d", x, is, e)
		}
	}
}

func TestIsTight(t *testing.T) {
	next := numbers(6)
	for _, x := range boards() {
		r, c := x[0], x[1]
		moves := words(r, c)
		check := func(set int) {
			if is, e := knight.IsTight(r, c, set); is != isTight(r, c, set, moves) || e != api.OK {
				t.Errorf("IsTight of %v, %d: %t, %d", x, set, is, e)
			}
		}
		if r*c <= 12 {
			for set := range 1 << (r * c) {
				check(set)
			}
			continue
		}
		full := 1<<(r*c) - 1
		check(full)
		for which := range 2 {
			own := side(r, c, which)
			check(own)
			for square := range r * c {
				check(own &^ (1 << square))
				check(own | 1<<square)
				check(1 << square)
			}
			for range 200 {
				check(next(full+1) & own)
				check((next(full+1) | next(full+1) | next(full+1)) & own)
				check(next(full + 1))
			}
		}
	}
	for set, want := range map[int]bool{0: false, 1: false, 3: false, 16: true, 17: true, 18: false, 170: false, 341: true, 341 &^ 16: true, 511: false} {
		if is, e := knight.IsTight(3, 3, set); is != want || e != api.OK {
			t.Errorf("IsTight of %d: %t, %d", set, is, e)
		}
	}
	if is, e := knight.IsTight(1, 2, 1); is || e != api.OK {
		t.Errorf("IsTight of all squares of a colour: %t, %d", is, e)
	}
	if is, e := knight.IsTight(1, 1, 1); !is || e != api.OK {
		t.Errorf("IsTight of all squares of a colour, the other one having fewer: %t, %d", is, e)
	}
}
