package price_test

import (
	"fmt"
	"math"
	"slices"
	"testing"

	"bibelot/api"
	"bibelot/price"
)

// walks are all lists of different indices below n: each list, and those that go on from it, after the shorter ones.
func walks(n int) [][]int {
	lists := [][]int{nil}
	for at := 0; at < len(lists); at++ {
		for i := range n {
			if !slices.Contains(lists[at], i) {
				lists = append(lists, append(slices.Clone(lists[at]), i))
			}
		}
	}
	return lists
}

// isRing follows the definition, by the weak taste of a / b.
func isRing(l []seen, list []int, a, b int) bool {
	met := map[int]bool{}
	for _, i := range list {
		if i < 0 || i >= len(l) || met[i] {
			return false
		}
		met[i] = true
	}
	if len(list) < 2 {
		return false
	}
	strictly := false
	for at, i := range list {
		next := list[0]
		if at+1 < len(list) {
			next = list[at+1]
		}
		if b*cost(l, i, next) > a*cost(l, i, i) {
			return false
		}
		if b*cost(l, i, next) < a*cost(l, i, i) {
			strictly = true
		}
	}
	return strictly
}

func hasRing(l []seen, a, b int) bool {
	return slices.ContainsFunc(walks(len(l)), func(list []int) bool {
		return isRing(l, list, a, b)
	})
}

// leads tells whether a walk leads from i to k, each preferred to the next one.
func leads(l []seen, i, k int) bool {
	return slices.ContainsFunc(walks(len(l)), func(list []int) bool {
		if len(list) == 0 || list[0] != i || list[len(list)-1] != k {
			return false
		}
		for at := 1; at < len(list); at++ {
			if cost(l, list[at-1], list[at]) > cost(l, list[at-1], list[at-1]) {
				return false
			}
		}
		return true
	})
}

func TestRing(t *testing.T) {
	rings := 0
	for _, l := range markets() {
		ring, is, e := price.Ring(l)
		if is != hasRing(l, 1, 1) || is != isRing(l, ring, 1, 1) || !is && len(ring) > 0 || e != api.OK {
			t.Errorf("Ring of %v: %v, %t, %d", l, ring, is, e)
		}
		if right, _ := price.IsRing(l, ring); right != is {
			t.Errorf("IsRing of %v, %v: %t", l, ring, right)
		}
		if len(ring) > 2 {
			rings++
		}
	}
	if rings == 0 {
		t.Error("no ring has more than two")
	}
}

func TestRingKnown(t *testing.T) {
	for name, want := range map[string]int{"alone": 0, "good": 0, "bad": 2, "same": 0, "even": 0, "round": 3, "one": 0, "rank": 0, "long": 0, "loop": 2} {
		if ring, is, e := price.Ring(known()[name]); len(ring) != want || is != (want > 0) || e != api.OK {
			t.Errorf("Ring of %s: %v, %t, %d", name, ring, is, e)
		}
	}
}

// checkRing wants what IsRing and Waste say of a list to be what the definitions say.
func checkRing(t *testing.T, l []seen, list []int) {
	t.Helper()
	want := isRing(l, list, 1, 1)
	if is, e := price.IsRing(l, list); is != want || e != api.OK {
		t.Errorf("IsRing of %v, %.80s: %t, %d", l, fmt.Sprint(list), is, e)
	}
	if !want {
		wantRefused(t, api.ErrArg, fmt.Sprintf("Waste of %v, %.80s", l, fmt.Sprint(list)), all(price.Waste(l, list)))
		return
	}
	waste := 0
	for at, i := range list {
		waste += cost(l, i, i) - cost(l, i, list[(at+1)%len(list)])
	}
	if n, e := price.Waste(l, list); n != waste || n < 1 || e != api.OK {
		t.Errorf("Waste of %v, %v: %d, %d", l, list, n, e)
	}
}

func TestIsRing(t *testing.T) {
	for at, l := range markets() {
		if at%5 != 0 && len(l) < 3 {
			continue
		}
		for _, list := range walks(len(l)) {
			checkRing(t, l, list)
		}
	}
}

// All lists in and around the indices of two observations, and of three.
func TestIsRingOfAll(t *testing.T) {
	for _, name := range []string{"alone", "good", "bad", "same", "even", "round"} {
		l := known()[name]
		lists := [][]int{nil}
		for at := 0; at < len(lists); at++ {
			checkRing(t, l, lists[at])
			for i := -1; i <= len(l) && len(lists[at]) < 4; i++ {
				lists = append(lists, append(slices.Clone(lists[at]), i))
			}
		}
	}
}

func TestNoRing(t *testing.T) {
	for _, name := range []string{"bad", "round", "loop"} {
		l := known()[name]
		ring, _, _ := price.Ring(l)
		for _, i := range []int{-1, len(l), ring[0], ring[0] + 8, ring[0] - 8, ring[0] + 256, ring[0] + 1<<32, ring[0] - 1<<32, math.MaxInt, math.MinInt} {
			for at := range ring {
				other := slices.Clone(ring)
				other[at] = i
				checkRing(t, l, other)
				checkRing(t, l, slices.Insert(slices.Clone(ring), at, i))
			}
			checkRing(t, l, append(slices.Clone(ring), i))
			checkRing(t, l, []int{i})
		}
		checkRing(t, l, slices.Concat(ring, ring))
		checkRing(t, l, slices.Repeat(ring, 100000))
		checkRing(t, l, make([]int, 100000))
	}
}

func TestWaste(t *testing.T) {
	for _, x := range []struct {
		name string
		ring []int
		want int
	}{{"bad", []int{0, 1}, 4}, {"bad", []int{1, 0}, 4}, {"round", []int{0, 1, 2}, 9}, {"round", []int{1, 2, 0}, 9}, {"loop", []int{0, 1}, 4}, {"loop", []int{3, 4}, 8}, {"loop", []int{3, 1, 0, 4}, 12}} {
		if n, e := price.Waste(known()[x.name], x.ring); n != x.want || e != api.OK {
			t.Errorf("Waste of %s, %v: %d, %d", x.name, x.ring, n, e)
		}
	}
	if _, e := price.Waste(known()["round"], []int{0, 2, 1}); e != api.ErrArg {
		t.Errorf("Waste the other way round: %d", e)
	}
}

func TestBetter(t *testing.T) {
	for at, l := range markets() {
		if at%5 != 0 && len(l) < 3 {
			continue
		}
		for i := range l {
			for k := range l {
				forth, back := leads(l, i, k), leads(l, k, i)
				want := map[[2]bool]int{{true, false}: 1, {false, true}: -1, {true, true}: 2}[[2]bool{forth, back}]
				if n, e := price.Better(l, i, k); n != want || e != api.OK || i == k && n != 2 {
					t.Errorf("Better of %v, %d, %d: %d, %d", l, i, k, n, e)
				}
			}
		}
	}
}

func TestBetterKnown(t *testing.T) {
	for _, x := range []struct {
		name    string
		i, k, n int
	}{{"alone", 0, 0, 2}, {"good", 0, 1, 0}, {"good", 1, 0, 0}, {"good", 1, 1, 2}, {"bad", 0, 1, 2}, {"same", 1, 0, 2}, {"even", 0, 2, 2}, {"even", 2, 0, 2}, {"round", 1, 0, 2}, {"rank", 0, 4, -1}, {"rank", 4, 0, 1}, {"one", 2, 1, 1}, {"one", 0, 3, 2}, {"one", 1, 0, -1}, {"loop", 2, 4, 1}, {"loop", 0, 2, -1}} {
		if n, e := price.Better(known()[x.name], x.i, x.k); n != x.n || e != api.OK {
			t.Errorf("Better of %s, %d, %d: %d, %d", x.name, x.i, x.k, n, e)
		}
	}
	// Only through the one in the middle: 0 and 2 are not compared directly.
	through := []seen{two(1, 3, 6, 0), two(2, 2, 3, 1), two(3, 1, 0, 4)}
	if table, _ := price.Prefers(through); table[0][2] != 0 || table[0][1] != 1 || table[1][2] != 1 {
		t.Fatalf("Prefers: %v", table)
	}
	if n, e := price.Better(through, 0, 2); n != 1 || e != api.OK {
		t.Errorf("Better through another one: %d, %d", n, e)
	}
}
