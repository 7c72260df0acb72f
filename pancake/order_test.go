package pancake_test

import (
	"fmt"
	"math"
	"slices"
	"testing"

	"bibelot/api"
	"bibelot/pancake"
)

func key(list []int) string {
	var text []byte
	for _, x := range list {
		text = append(text, byte(x+100))
	}
	return string(text)
}

// flipped are the lists after all flips from the least one on.
func flipped(s []int, least int, signed bool) [][]int {
	var after [][]int
	for k := least; k <= len(s); k++ {
		after = append(after, turned(s, 0, k-1, signed))
	}
	return after
}

func stackFlipped(s []int) [][]int {
	return flipped(s, 2, false)
}

func burntFlipped(s []int) [][]int {
	return flipped(s, 1, true)
}

func rowTurned(s []int) [][]int {
	var after [][]int
	for k := range s {
		for i := 0; i <= k; i++ {
			after = append(after, turned(s, i, k, true))
		}
	}
	return after
}

// far are the least numbers of moves from a list to all that moves lead to.
func far(from []int, moves func([]int) [][]int) map[string]int {
	least := map[string]int{key(from): 0}
	queue := [][]int{from}
	for i := 0; i < len(queue); i++ {
		made := least[key(queue[i])]
		for _, next := range moves(queue[i]) {
			if _, known := least[key(next)]; !known {
				least[key(next)] = made + 1
				queue = append(queue, next)
			}
		}
	}
	return least
}

// flipping is all that is the same for stacks and burnt stacks.
type flipping struct {
	name   string
	most   int
	signed bool
	moves  func([]int) [][]int
	flip   func([]int, int) ([]int, api.Errno)
	flips  func(s, t []int) (int, api.Errno)
	order  func([]int) ([]int, api.Errno)
	worst  func(int) (int, int64, api.Errno)
}

func flippings() []flipping {
	return []flipping{
		{"stacks", 7, false, stackFlipped, pancake.Flip, pancake.Flips, pancake.Order, pancake.Worst},
		{"burnt stacks", 6, true, burntFlipped, pancake.FlipBurnt, pancake.FlipsBurnt, pancake.OrderBurnt, pancake.WorstBurnt},
	}
}

// want wants so many flips from s to its order.
func (f flipping) want(t *testing.T, s []int, number int) {
	t.Helper()
	if d, e := f.flips(s, first(len(s))); d != number || e != api.OK {
		t.Errorf("flips of %v: %d, %d, want %d", s, d, e, number)
	}
	list, e := f.order(s)
	if len(list) != number || e != api.OK {
		t.Errorf("order of %v: %v, %d, want %d flips", s, list, e, number)
	}
	at := s
	for _, k := range list {
		if k < 1 || k > len(s) || k == 1 && !f.signed {
			t.Fatalf("order of %v: %v", s, list)
		}
		at = turned(at, 0, k-1, f.signed)
	}
	if !slices.Equal(at, first(len(s))) {
		t.Errorf("order of %v: %v leads to %v", s, list, at)
	}
}

func TestOrder(t *testing.T) {
	for _, f := range flippings() {
		for n := 1; n <= f.most; n++ {
			least := far(first(n), f.moves)
			stacks := lists(n, f.signed)
			if len(least) != len(stacks) {
				t.Fatalf("%s of %d numbers: %d of %d reached", f.name, n, len(least), len(stacks))
			}
			pick := numbers(uint64(n))
			for _, s := range stacks {
				if len(stacks) < 1000 || pick(len(stacks)) < 60 {
					f.want(t, s, least[key(s)])
				}
			}
		}
	}
}

func TestOrderKnown(t *testing.T) {
	stacks, burnt := flippings()[0], flippings()[1]
	for _, x := range []struct {
		s    []int
		want int
	}{{[]int{1}, 0}, {[]int{2, 1}, 1}, {[]int{3, 1, 2}, 2}, {[]int{1, 3, 2}, 3}, {first(7), 0}, {[]int{7, 6, 5, 4, 3, 2, 1}, 1}} {
		stacks.want(t, x.s, x.want)
	}
	for _, x := range []struct {
		s    []int
		want int
	}{{[]int{1}, 0}, {[]int{-1}, 1}, {[]int{-2, -1}, 1}, {[]int{2, 1}, 3}, {[]int{-1, -2}, 4}, {[]int{1, -2}, 3}, {[]int{-1, -2, -3}, 6}, {[]int{-1, -2, -3, -4, -5, -6}, 12}, {first(6), 0}} {
		burnt.want(t, x.s, x.want)
	}
}

// Between any two stacks.
func TestFlips(t *testing.T) {
	for _, f := range flippings() {
		for n := 1; n <= 3; n++ {
			stacks := lists(n, f.signed)
			for _, s := range stacks {
				least := far(s, f.moves)
				for _, u := range stacks {
					if d, e := f.flips(s, u); d != least[key(u)] || e != api.OK {
						t.Errorf("flips from %v to %v: %d, %d", s, u, d, e)
					}
				}
			}
		}
		for n := 4; n <= f.most; n++ {
			pick := numbers(uint64(n))
			s := some(n, f.signed, pick)
			least := far(s, f.moves)
			for range 40 {
				u := some(n, f.signed, pick)
				if d, e := f.flips(s, u); d != least[key(u)] || e != api.OK {
					t.Errorf("flips from %v to %v: %d, %d", s, u, d, e)
				}
			}
		}
	}
}

func TestWorst(t *testing.T) {
	for _, f := range flippings() {
		for n := 1; n <= f.most; n++ {
			most, many := 0, int64(0)
			for _, made := range far(first(n), f.moves) {
				if made > most {
					most, many = made, 0
				}
				if made == most {
					many++
				}
			}
			if got, number, e := f.worst(n); got != most || number != many || e != api.OK {
				t.Errorf("worst of %d: %d, %d, %d, want %d, %d", n, got, number, e, most, many)
			}
		}
		for _, n := range []int{0, -1, f.most + 1, 8, 256 + 3, 1<<32 + 3, math.MaxInt, math.MinInt} {
			wantRefused(t, api.ErrArg, fmt.Sprint("worst of ", n, f.name), all(f.worst(n)))
		}
	}
}

// P7.6.
func TestWorstKnown(t *testing.T) {
	known := [][][2]int{{{0, 1}, {1, 1}, {3, 1}, {4, 3}, {5, 20}, {7, 2}, {8, 35}}, {{1, 1}, {4, 1}, {6, 2}, {8, 3}, {10, 4}, {12, 1}}}
	for i, f := range flippings() {
		for k, x := range known[i] {
			if most, many, e := f.worst(k + 1); most != x[0] || many != int64(x[1]) || e != api.OK {
				t.Errorf("worst of %d, %s: %d, %d, %d", k+1, f.name, most, many, e)
			}
		}
	}
}

// P7.6: flips to the order are at least the gaps.
func TestFlipsAndGaps(t *testing.T) {
	for n := 1; n <= 6; n++ {
		for _, s := range lists(n, false) {
			d, _ := pancake.Flips(s, first(n))
			if g, _ := pancake.Gaps(s); d < g {
				t.Errorf("%v: %d flips, %d gaps", s, d, g)
			}
		}
	}
}

// renamed gives each number of a list the name that the list of names has for it, with its sign.
func renamed(s, names []int) []int {
	var list []int
	for _, x := range s {
		if x < 0 {
			list = append(list, -names[-x-1])
		} else {
			list = append(list, names[x-1])
		}
	}
	return list
}

// P7.7.
func TestFlipsMetric(t *testing.T) {
	for _, f := range flippings() {
		pick := numbers(7)
		for i := range 150 {
			n := 1 + i%5
			a, b, c, names := some(n, f.signed, pick), some(n, f.signed, pick), some(n, f.signed, pick), some(n, f.signed, pick)
			distance := func(s, u []int) int {
				d, _ := f.flips(s, u)
				return d
			}
			ab, ba, bc, ac := distance(a, b), distance(b, a), distance(b, c), distance(a, c)
			if ab != ba || (ab == 0) != slices.Equal(a, b) || ac > ab+bc || distance(a, a) != 0 {
				t.Errorf("%v, %v, %v: %d, %d, %d, %d", a, b, c, ab, ba, bc, ac)
			}
			if d := distance(renamed(a, names), renamed(b, names)); d != ab {
				t.Errorf("from %v to %v: %d, renamed by %v: %d", a, b, ab, names, d)
			}
		}
	}
}

// W3: a flip that is made twice changes nothing, and one changes the flips to any stack by at most 1.
func TestFlipTwice(t *testing.T) {
	for _, f := range flippings() {
		pick := numbers(3)
		for i := range 60 {
			n := 1 + i%f.most
			s := some(n, f.signed, pick)
			for k := 1; k <= n; k++ {
				once, _ := f.flip(s, k)
				twice, _ := f.flip(once, k)
				if !slices.Equal(twice, s) {
					t.Errorf("%v, flips of %d: %v, %v", s, k, once, twice)
				}
				d, _ := f.flips(once, s)
				if want := min(1, len(once)); d > want || (d == 0) != (k == 1 && !f.signed) {
					t.Errorf("%v, flip of %d: %v, %d flips", s, k, once, d)
				}
			}
		}
	}
}
