package switches_test

import (
	"fmt"
	"math"
	"slices"
	"testing"

	"bibelot/api"
	"bibelot/switches"
)

// isBarrier follows the definition.
func isBarrier(g game, lists [][]int) bool {
	var named []int
	for i, list := range lists {
		if len(list) == 0 || i > 0 && slices.Compare(lists[i-1], list) > 0 || !slices.IsSorted(list) {
			return false
		}
		named = append(named, list...)
	}
	slices.Sort(named)
	if !slices.Equal(named, everywhere(g)) || len(lists) < 2 {
		return false
	}
	between := 0
	for _, wire := range g.Wires {
		for _, list := range lists {
			if slices.Contains(list, wire[0]) && !slices.Contains(list, wire[1]) {
				between++
			}
		}
	}
	return between < 2*(len(lists)-1)
}

// partings are all ways to part the places below n.
func partings(n int) [][][]int {
	if n == 0 {
		return [][][]int{nil}
	}
	var all [][][]int
	for _, fewer := range partings(n - 1) {
		for i, list := range fewer {
			lists := slices.Clone(fewer)
			lists[i] = append(slices.Clone(list), n-1)
			all = append(all, lists)
		}
		all = append(all, append(slices.Clone(fewer), []int{n - 1}))
	}
	return all
}

func hasBarrier(g game, ways [][][]int) bool {
	return slices.ContainsFunc(ways, func(lists [][]int) bool {
		return isBarrier(g, lists)
	})
}

// checkBarrier wants a barrier just if there are no two trees on all places (P8.7).
func checkBarrier(t *testing.T, g game, want bool) {
	t.Helper()
	lists, is, e := switches.Barrier(g)
	if is != want || is && !isBarrier(g, lists) || !is && len(lists) > 0 || e != api.OK {
		t.Errorf("Barrier of %v: %v, %t, %d", g, lists, is, e)
	}
	checkSpanning(t, g, !want)
}

func TestBarrier(t *testing.T) {
	ways := map[int][][][]int{}
	for n := 2; n <= 8; n++ {
		ways[n] = partings(n)
	}
	games := slices.Concat(tiny(), mixed())
	for _, g := range known() {
		games = append(games, g)
	}
	for _, g := range games {
		checkBarrier(t, g, hasBarrier(g, ways[g.N]))
	}
}

func TestBarrierKnown(t *testing.T) {
	for name, want := range map[string]bool{"none": true, "one": true, "double": false, "ten": false, "series": true, "thick": false, "ring": true, "bridge": true, "four": false, "aside": true, "five": false, "long": false, "seven": true} {
		checkBarrier(t, known()[name], want)
	}
}

// wall wants what IsBarrier says of the lists to be what the definition says.
func wall(t *testing.T, g game, lists [][]int) {
	t.Helper()
	if is, e := switches.IsBarrier(g, lists); is != isBarrier(g, lists) || e != api.OK {
		t.Errorf("IsBarrier of %v, %.80s: %t, %d", g, fmt.Sprint(lists), is, e)
	}
}

// tuples are all lists of at most so many of some things.
func tuples[T any](things []T, most int) [][]T {
	all := [][]T{nil}
	for start := 0; most > 0; most-- {
		end := len(all)
		for _, shorter := range all[start:end] {
			for _, x := range things {
				all = append(all, append(slices.Clone(shorter), x))
			}
		}
		start = end
	}
	return all
}

func TestIsBarrierOfAll(t *testing.T) {
	two := tuples(tuples([]int{-1, 0, 1, 2}, 2), 3)
	three := tuples(tuples([]int{0, 1, 2}, 2), 4)
	for _, lists := range two {
		for wires := range 4 {
			wall(t, game{2, 0, 1, slices.Repeat([][2]int{{0, 1}}, wires)}, lists)
		}
	}
	for _, lists := range three {
		for _, name := range []string{"series", "ring", "thick"} {
			wall(t, known()[name], lists)
		}
	}
}

// All ways to part the places, with small changes.
func TestIsBarrier(t *testing.T) {
	pick := numbers(4)
	for _, g := range mixed() {
		ways := partings(g.N)
		for range 30 {
			lists := ways[pick(len(ways))]
			wall(t, g, lists)
			i := pick(len(lists))
			k := pick(len(lists[i]))
			for _, place := range []int{-1, g.N, pick(g.N), lists[i][k] + 16, lists[i][k] + 1<<32, lists[i][k] - 256, math.MaxInt, math.MinInt} {
				other := slices.Clone(lists)
				other[i] = slices.Clone(lists[i])
				other[i][k] = place
				wall(t, g, other)
				wall(t, g, slices.Insert(slices.Clone(lists), i, []int{place}))
			}
			wall(t, g, slices.Delete(slices.Clone(lists), i, i+1))
			wall(t, g, slices.Insert(slices.Clone(lists), i, nil))
			wall(t, g, slices.Insert(slices.Clone(lists), i, lists[i]))
			turned := slices.Clone(lists)
			turned[0], turned[i] = turned[i], turned[0]
			wall(t, g, turned)
			turned = slices.Clone(lists)
			turned[i] = slices.Clone(lists[i])
			slices.Reverse(turned[i])
			wall(t, g, turned)
		}
	}
}

func TestIsBarrierKnown(t *testing.T) {
	many := make([][]int, 100000)
	for _, x := range []struct {
		name  string
		lists [][]int
		want  bool
	}{
		{"one", [][]int{{0}, {1}}, true}, {"none", [][]int{{0}, {1}}, true}, {"double", [][]int{{0}, {1}}, false}, {"one", [][]int{{0, 1}}, false}, {"none", nil, false}, {"none", [][]int{{1}, {0}}, false}, {"none", [][]int{{0, 1}, nil}, false}, {"none", [][]int{nil, {0, 1}}, false},
		{"series", [][]int{{0}, {1}, {2}}, true}, {"series", [][]int{{0}, {1, 2}}, true}, {"series", [][]int{{0, 2}, {1}}, false}, {"series", [][]int{{0, 1}, {2}}, true}, {"series", [][]int{{0}, {2}, {1}}, false}, {"series", [][]int{{0}, {2, 1}}, false}, {"series", [][]int{{0}, {1}}, false}, {"series", [][]int{{0}, {0, 1}, {2}}, false},
		{"bridge", [][]int{{0}, {1}, {2}, {3}}, true}, {"bridge", [][]int{{0}, {1, 2}, {3}}, false}, {"bridge", [][]int{{0}, {1, 2, 3}}, false}, {"aside", [][]int{{0, 1, 3, 4, 5, 6}, {2, 7}}, true},
		{"seven", many, false}, {"seven", slices.Repeat([][]int{{0}}, 100000), false}, {"seven", [][]int{make([]int, 100000)}, false},
	} {
		if is, e := switches.IsBarrier(known()[x.name], x.lists); is != x.want || e != api.OK {
			t.Errorf("IsBarrier of %s, %.80s: %t, %d", x.name, fmt.Sprint(x.lists), is, e)
		}
	}
}
