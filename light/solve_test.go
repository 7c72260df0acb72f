package light_test

import (
	"fmt"
	"maps"
	"slices"
	"testing"

	"bibelot/api"
	"bibelot/light"
)

// tried is what trying all sets of a graph shows.
type tried struct {
	best          map[int]int // for each effect the least of the sets with the fewest lamps
	quiet         []int
	hardest, most int
}

func tryAll(g graph, own bool) tried {
	x := tried{best: map[int]int{}}
	for set := range 1 << g.n {
		target := effect(g, own, set)
		if target == 0 {
			x.quiet = append(x.quiet, set)
		}
		if best, ok := x.best[target]; !ok || count(set) < count(best) {
			x.best[target] = set
		}
	}
	for target := range 1 << g.n {
		if best, ok := x.best[target]; ok && count(best) > x.most {
			x.hardest, x.most = target, count(best)
		}
	}
	return x
}

func (x tried) refutes(target, set int) bool {
	return slices.Contains(x.quiet, set) && count(target&set)%2 == 1
}

// checkTarget tests all that is said of a target (P4.2, P4.3): it is the effect of some set just if nothing refutes it (P4.5).
func checkTarget(t *testing.T, g graph, own bool, x tried, target int) {
	t.Helper()
	what := fmt.Sprint(target, " on ", g, own)
	best, can := x.best[target]
	set, ok, e := light.Solve(g.n, g.edges, own, target)
	if ok != can || e != api.OK || ok && effect(g, own, set) != target || !ok && set != 0 || set < 0 || set >= 1<<g.n {
		t.Errorf("Solve of %s: %d, %t, %d", what, set, ok, e)
	}
	few, ok, e := light.Fewest(g.n, g.edges, own, target)
	if ok != can || e != api.OK || few != best {
		t.Errorf("Fewest of %s: %d, %t, %d, want %d, %t", what, few, ok, e, best, can)
	}
	against, bad, e := light.Refute(g.n, g.edges, own, target)
	if bad == can || e != api.OK || bad && !x.refutes(target, against) || !bad && against != 0 {
		t.Errorf("Refute of %s: %d, %t, %d", what, against, bad, e)
	}
	if is, e := light.IsRefutation(g.n, g.edges, own, target, against); is != bad || e != api.OK {
		t.Errorf("IsRefutation of %s, %d: %t, %d", what, against, is, e)
	}
}

// checkBasis tests all that makes a list the quiet basis.
func checkBasis(t *testing.T, what string, basis, quiet []int) {
	t.Helper()
	made := map[int]bool{0: true}
	for i, set := range basis {
		if set <= 0 || i > 0 && set <= basis[i-1] {
			t.Errorf("Quiet of %s: %v does not rise", what, basis)
			return
		}
		top := 0
		for 1<<(top+1) <= set {
			top++
		}
		for k, other := range basis {
			if k != i && has(other, top) {
				t.Errorf("Quiet of %s: %v: %d has the greatest lamp of %d", what, basis, other, set)
			}
		}
		for other := range maps.Clone(made) {
			if made[other^set] {
				t.Errorf("Quiet of %s: %v: %d comes in two ways", what, basis, other^set)
			}
			made[other^set] = true
		}
	}
	if all := slices.Sorted(maps.Keys(made)); !slices.Equal(all, quiet) {
		t.Errorf("Quiet of %s: %v makes %v, want %v", what, basis, all, quiet)
	}
}

// checkGraph tests all that is said of a graph; the number of reachable targets times that of quiet sets is that of all sets (P4.5).
func checkGraph(t *testing.T, g graph, own bool) tried {
	t.Helper()
	x := tryAll(g, own)
	what := fmt.Sprint(g, own)
	basis, e := light.Quiet(g.n, g.edges, own)
	if e != api.OK {
		t.Errorf("Quiet of %s: %d", what, e)
	}
	checkBasis(t, what, basis, x.quiet)
	many, e := light.Reachable(g.n, g.edges, own)
	if many != len(x.best) || many<<len(basis) != 1<<g.n || e != api.OK {
		t.Errorf("Reachable of %s: %d, %d, want %d", what, many, e, len(x.best))
	}
	hardest, most, e := light.Hardest(g.n, g.edges, own)
	if hardest != x.hardest || most != x.most || e != api.OK {
		t.Errorf("Hardest of %s: %d, %d, %d, want %d, %d", what, hardest, most, e, x.hardest, x.most)
	}
	return x
}

func TestSolving(t *testing.T) {
	for _, g := range small() {
		for _, own := range []bool{false, true} {
			x := checkGraph(t, g, own)
			for target := range 1 << g.n {
				checkTarget(t, g, own, x, target)
			}
		}
	}
}

// All graphs of five lamps.
func TestSolvingFive(t *testing.T) {
	full := complete(5)
	for places := range 1 << len(full.edges) {
		g := part(full, places)
		for _, own := range []bool{false, true} {
			x := checkGraph(t, g, own)
			for target := range 1 << g.n {
				checkTarget(t, g, own, x, target)
			}
		}
	}
}

// Graphs of up to 16 lamps, with some of their targets.
func TestSolvingLarge(t *testing.T) {
	next := numbers(3)
	graphs := []graph{path(16), ring(15), ring(16), complete(16), star(16, 7), {16, nil}, {16, [][2]int{{0, 15}}}, {13, [][2]int{{11, 12}}}}
	for _, n := range []int{9, 11, 12, 14, 15, 16, 16} {
		graphs = append(graphs, mixed(n, next))
	}
	for _, side := range [][2]int{{4, 4}, {3, 5}, {5, 3}, {2, 8}, {7, 2}} {
		n, edges, _ := light.Grid(side[0], side[1])
		graphs = append(graphs, graph{n, edges})
	}
	for _, g := range graphs {
		for _, own := range []bool{false, true} {
			x := checkGraph(t, g, own)
			checkTarget(t, g, own, x, 0)
			checkTarget(t, g, own, x, 1<<g.n-1)
			checkTarget(t, g, own, x, x.hardest)
			for range 30 {
				target := next(1 << g.n)
				checkTarget(t, g, own, x, target)
				checkTarget(t, g, own, x, effect(g, own, target)) // one that can be reached
			}
		}
	}
}

func TestFewestKnown(t *testing.T) {
	n, edges, _ := light.Grid(3, 3)
	grid := graph{n, edges}
	for _, x := range []struct {
		graph
		own    bool
		target int
		want   int
		is     bool
	}{
		{grid, true, 511, 341, true}, // lamps 0, 2, 4, 6, 8
		{grid, true, 0, 0, true},
		{grid, true, 16, 16 + 2 + 8 + 32 + 128, true},
		{path(2), true, 3, 1, true}, // pressing 1 has the same effect
		{path(2), true, 1, 0, false},
		{path(2), false, 3, 3, true},
		{path(2), false, 1, 2, true},
		{path(1), false, 0, 0, true},
		{path(1), false, 1, 0, false},
		{path(1), true, 1, 1, true},
		{complete(16), true, 65535, 1, true},
		{complete(16), true, 65534, 0, false},
		{ring(4), false, 5, 2, true}, // and by lamp 3
		{graph{16, nil}, true, 65535, 65535, true},
		{graph{16, nil}, false, 0, 0, true},
		{graph{16, nil}, false, 32768, 0, false},
	} {
		set, is, e := light.Fewest(x.n, x.edges, x.own, x.target)
		if set != x.want || is != x.is || e != api.OK {
			t.Errorf("Fewest of %d on %v, %t: %d, %t, %d", x.target, x.graph, x.own, set, is, e)
		}
	}
}

func TestQuietKnown(t *testing.T) {
	for _, x := range []struct {
		graph
		own  bool
		want string
	}{
		{path(2), true, "[3]"}, {path(2), false, "[]"}, {path(1), true, "[]"}, {path(1), false, "[1]"},
		{path(3), false, "[5]"}, {path(5), true, "[27]"}, {path(5), false, "[21]"}, {ring(3), true, "[3 5]"},
		{ring(3), false, "[7]"}, {ring(6), true, "[27 45]"}, {ring(6), false, "[21 42]"},
		{graph{4, nil}, false, "[1 2 4 8]"}, {graph{4, nil}, true, "[]"},
		{star(4, 0), false, "[6 10]"}, {star(4, 3), false, "[3 5]"}, {complete(4), true, "[3 5 9]"},
	} {
		basis, e := light.Quiet(x.n, x.edges, x.own)
		if fmt.Sprint(basis) != x.want || e != api.OK {
			t.Errorf("Quiet of %v, %t: %v, %d, want %s", x.graph, x.own, basis, e, x.want)
		}
	}
}

func TestHardestKnown(t *testing.T) {
	n, edges, _ := light.Grid(3, 3)
	for _, x := range []struct {
		graph
		own          bool
		target, most int
	}{
		{path(1), false, 0, 0}, {path(1), true, 1, 1}, {path(2), true, 3, 1}, {path(2), false, 3, 2},
		{graph{16, nil}, true, 65535, 16}, {graph{16, nil}, false, 0, 0}, {graph{16, [][2]int{{0, 15}}}, false, 32769, 2},
		{complete(16), true, 65535, 1}, {graph{n, edges}, true, 341, 9},
	} {
		target, most, e := light.Hardest(x.n, x.edges, x.own)
		if target != x.target || most != x.most || e != api.OK {
			t.Errorf("Hardest of %v, %t: %d, %d, %d, want %d, %d", x.graph, x.own, target, most, e, x.target, x.most)
		}
	}
}

func TestIsRefutation(t *testing.T) {
	for _, g := range append(tiny(), path(5), ring(6), star(6, 2), graph{5, nil}, mixed(6, numbers(2))) {
		for _, own := range []bool{false, true} {
			x := tryAll(g, own)
			for target := range 1 << g.n {
				for set := range 1 << g.n {
					is, e := light.IsRefutation(g.n, g.edges, own, target, set)
					if is != x.refutes(target, set) || e != api.OK {
						t.Errorf("IsRefutation of %d, %d on %v, %t: %t, %d", target, set, g, own, is, e)
					}
				}
			}
		}
	}
	for _, x := range []struct {
		graph
		own           bool
		target, quiet int
		want          bool
	}{
		{path(2), true, 1, 3, true}, {path(2), true, 2, 3, true}, {path(2), true, 3, 3, false}, {path(2), true, 0, 3, false},
		{path(2), true, 1, 1, false}, // not quiet
		{path(2), true, 1, 0, false}, // quiet, but nothing in common
		{path(2), false, 1, 3, false},
		{graph{16, nil}, false, 65535, 32768, true}, {graph{16, nil}, false, 65535, 65535, false}, {graph{16, nil}, false, 32768, 65535, true},
		{graph{16, nil}, true, 65535, 32768, false},
	} {
		if is, e := light.IsRefutation(x.n, x.edges, x.own, x.target, x.quiet); is != x.want || e != api.OK {
			t.Errorf("IsRefutation of %d, %d on %v, %t: %t, %d", x.target, x.quiet, x.graph, x.own, is, e)
		}
	}
}

// P4.5: sets with one effect differ by quiet sets, and Solve's and Fewest's sets do.
func TestSetsWithOneEffect(t *testing.T) {
	for _, g := range append(tiny(), path(5), ring(6), star(6, 2)) {
		for _, own := range []bool{false, true} {
			quiet := tryAll(g, own).quiet
			for set := range 1 << g.n {
				target := effect(g, own, set)
				one, _, _ := light.Solve(g.n, g.edges, own, target)
				few, _, _ := light.Fewest(g.n, g.edges, own, target)
				if !slices.Contains(quiet, one^set) || !slices.Contains(quiet, few^set) {
					t.Errorf("%d, %d and %d on %v, %t do not differ by quiet sets", set, one, few, g, own)
				}
			}
		}
	}
}

// P4.6: with own all lamps can be switched.
func TestAllLamps(t *testing.T) {
	graphs := append(small(), path(16), ring(16), complete(16), complete(15), star(16, 0), graph{16, nil})
	next := numbers(17)
	for range 200 {
		graphs = append(graphs, mixed(8+next(9), next))
	}
	for _, g := range graphs {
		all := 1<<g.n - 1
		set, ok, e := light.Solve(g.n, g.edges, true, all)
		if !ok || e != api.OK || effect(g, true, set) != all {
			t.Errorf("Solve of all on %v: %d, %t, %d", g, set, ok, e)
		}
		few, ok, e := light.Fewest(g.n, g.edges, true, all)
		if !ok || e != api.OK || effect(g, true, few) != all || count(few) > count(set) {
			t.Errorf("Fewest of all on %v: %d, %t, %d", g, few, ok, e)
		}
		if set, bad, e := light.Refute(g.n, g.edges, true, all); bad || e != api.OK {
			t.Errorf("Refute of all on %v: %d, %d", g, set, e)
		}
	}
}

// P4.7: how many sets the quiet bases of paths and rings have.
func TestPathsAndRings(t *testing.T) {
	test := func(name string, g graph, own bool, want int) {
		t.Helper()
		if basis, e := light.Quiet(g.n, g.edges, own); len(basis) != want || e != api.OK {
			t.Errorf("Quiet of a %s of %d, %t: %v, %d", name, g.n, own, basis, e)
		}
		if many, e := light.Reachable(g.n, g.edges, own); many != 1<<(g.n-want) || e != api.OK {
			t.Errorf("Reachable of a %s of %d, %t: %d, %d", name, g.n, own, many, e)
		}
	}
	for n := 1; n <= 16; n++ {
		test("path", path(n), true, []int{0, 0, 1}[n%3])
		test("path", path(n), false, n%2)
		if n >= 3 {
			test("ring", ring(n), true, []int{2, 0, 0}[n%3])
			test("ring", ring(n), false, 2-n%2)
		}
	}
}
