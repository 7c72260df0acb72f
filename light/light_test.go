package light_test

import (
	"fmt"
	"math"
	"slices"
	"testing"

	"bibelot/api"
	"bibelot/light"
)

type graph struct {
	n     int
	edges [][2]int
}

// path is the graph of n lamps in a row.
func path(n int) graph {
	var edges [][2]int
	for i := range n - 1 {
		edges = append(edges, [2]int{i, i + 1})
	}
	return graph{n, edges}
}

// ring is the graph of n lamps, at least three, in a circle.
func ring(n int) graph {
	edges := append(path(n).edges, [2]int{0, n - 1})
	slices.SortFunc(edges, byOrder)
	return graph{n, edges}
}

func byOrder(a, b [2]int) int {
	return slices.Compare(a[:], b[:])
}

// complete is the graph of n lamps with all edges.
func complete(n int) graph {
	var edges [][2]int
	for j := range n {
		for i := range j {
			edges = append(edges, [2]int{i, j})
		}
	}
	slices.SortFunc(edges, byOrder)
	return graph{n, edges}
}

// star is the graph of n lamps with edges from one of them to all others.
func star(n, middle int) graph {
	var edges [][2]int
	for i := range n {
		if i != middle {
			edges = append(edges, [2]int{min(i, middle), max(i, middle)})
		}
	}
	slices.SortFunc(edges, byOrder)
	return graph{n, edges}
}

// part is the graph with those of the edges whose places are bits of a number.
func part(g graph, places int) graph {
	var edges [][2]int
	for k, edge := range g.edges {
		if has(places, k) {
			edges = append(edges, edge)
		}
	}
	return graph{g.n, edges}
}

// numbers gives numbers below a limit that follow a short rule.
func numbers(seed int) func(limit int) int {
	return func(limit int) int {
		seed = (seed*1103515245 + 12345) % (1 << 31)
		return seed >> 12 % limit
	}
}

// mixed is a graph of n lamps with about each third edge.
func mixed(n int, next func(int) int) graph {
	var edges [][2]int
	for _, edge := range complete(n).edges {
		if next(3) == 0 {
			edges = append(edges, edge)
		}
	}
	return graph{n, edges}
}

// tiny are all graphs of at most four lamps.
func tiny() []graph {
	var all []graph
	for n := 1; n <= 4; n++ {
		full := complete(n)
		for places := range 1 << len(full.edges) {
			all = append(all, part(full, places))
		}
	}
	return all
}

// small are graphs of which all sets can be tried with all others.
func small() []graph {
	all := append(tiny(), path(5), path(6), path(7), path(8), ring(5), ring(6), ring(7), ring(8), complete(5), complete(6), complete(7), star(6, 0), star(7, 3), star(6, 5), graph{5, nil}, graph{7, nil}, graph{6, [][2]int{{1, 4}}}, graph{8, [][2]int{{0, 7}, {3, 4}}})
	next := numbers(11)
	for range 60 {
		all = append(all, mixed(5+next(3), next))
	}
	return all
}

func has(set, lamp int) bool {
	return set/(1<<lamp)%2 == 1
}

func count(set int) int {
	lamps := 0
	for set > 0 {
		lamps += set % 2
		set /= 2
	}
	return lamps
}

// effect presses one lamp after the other.
func effect(g graph, own bool, pressed int) int {
	times := make([]int, g.n)
	for lamp := range g.n {
		if !has(pressed, lamp) {
			continue
		}
		if own {
			times[lamp]++
		}
		for _, edge := range g.edges {
			if edge[0] == lamp {
				times[edge[1]]++
			}
			if edge[1] == lamp {
				times[edge[0]]++
			}
		}
	}
	set := 0
	for lamp, n := range times {
		set += n % 2 * (1 << lamp)
	}
	return set
}

// invalid are no graphs, with the error of each.
func invalid() []struct {
	graph
	want api.Errno
} {
	return []struct {
		graph
		want api.Errno
	}{
		{graph{0, nil}, api.ErrArg},
		{graph{-1, nil}, api.ErrArg},
		{graph{17, nil}, api.ErrArg},
		{graph{17, path(17).edges}, api.ErrArg},
		{graph{64, nil}, api.ErrArg},
		{graph{1 << 32, nil}, api.ErrArg},
		{graph{math.MaxInt, nil}, api.ErrArg},
		{graph{math.MinInt, nil}, api.ErrArg},
		{graph{0, [][2]int{{1, 0}}}, api.ErrArg},
		{graph{17, [][2]int{{0, 0}}}, api.ErrArg},
		{graph{1, [][2]int{{0, 0}}}, api.ErrGraph},
		{graph{1, [][2]int{{0, 1}}}, api.ErrGraph},
		{graph{3, [][2]int{{1, 0}}}, api.ErrGraph},
		{graph{3, [][2]int{{1, 1}}}, api.ErrGraph},
		{graph{3, [][2]int{{1, 3}}}, api.ErrGraph},
		{graph{3, [][2]int{{-1, 0}}}, api.ErrGraph},
		{graph{3, [][2]int{{-1, 2}}}, api.ErrGraph},
		{graph{3, [][2]int{{-2, -1}}}, api.ErrGraph},
		{graph{3, [][2]int{{3, 4}}}, api.ErrGraph},
		{graph{16, [][2]int{{0, 16}}}, api.ErrGraph},
		{graph{16, [][2]int{{0, math.MaxInt}}}, api.ErrGraph},
		{graph{16, [][2]int{{math.MinInt, 1}}}, api.ErrGraph},
		{graph{16, [][2]int{{math.MinInt, math.MaxInt}}}, api.ErrGraph},
		{graph{3, [][2]int{{0, 1}, {0, 1}}}, api.ErrGraph},
		{graph{3, [][2]int{{0, 2}, {0, 1}}}, api.ErrGraph},
		{graph{3, [][2]int{{1, 2}, {0, 1}}}, api.ErrGraph},
		{graph{4, [][2]int{{1, 2}, {0, 3}}}, api.ErrGraph},
		{graph{3, [][2]int{{0, 1}, {0, 2}, {1, 2}, {1, 2}}}, api.ErrGraph},
		{graph{3, [][2]int{{0, 1}, {0, 2}, {1, 2}, {0, 1}}}, api.ErrGraph},
		{graph{3, [][2]int{{0, 1}, {0, 2}, {1, 2}, {2, 1}}}, api.ErrGraph},
		{graph{3, [][2]int{{0, 1}, {0, 2}, {1, 3}}}, api.ErrGraph}, // the last edge
		{graph{3, [][2]int{{0, 1}, {1, 1}, {1, 2}}}, api.ErrGraph}, // one between others
		{graph{16, make([][2]int, 100000)}, api.ErrGraph},
		{graph{16, slices.Repeat([][2]int{{0, 1}}, 100000)}, api.ErrGraph},
		{graph{16, append(complete(16).edges, [2]int{15, 16})}, api.ErrGraph},
	}
}

// answer is the error of a call, and whether its other results are zero.
type answer struct {
	e    api.Errno
	zero bool
}

// callAll calls all that takes no set, one, or two, with as many of p and q.
func callAll(g graph, own bool, p, q int) (none, one, two map[string]answer) {
	none, one, two = map[string]answer{}, map[string]answer{}, map[string]answer{}
	list, e := light.Quiet(g.n, g.edges, own)
	none["Quiet"] = answer{e, len(list) == 0}
	a, e := light.Reachable(g.n, g.edges, own)
	none["Reachable"] = answer{e, a == 0}
	a, b, e := light.Hardest(g.n, g.edges, own)
	none["Hardest"] = answer{e, a == 0 && b == 0}

	a, e = light.Effect(g.n, g.edges, own, p)
	one["Effect"] = answer{e, a == 0}
	a, is, e := light.Solve(g.n, g.edges, own, p)
	one["Solve"] = answer{e, a == 0 && !is}
	a, is, e = light.Fewest(g.n, g.edges, own, p)
	one["Fewest"] = answer{e, a == 0 && !is}
	a, is, e = light.Refute(g.n, g.edges, own, p)
	one["Refute"] = answer{e, a == 0 && !is}

	is, e = light.IsRefutation(g.n, g.edges, own, p, q)
	two["IsRefutation"] = answer{e, !is}
	return none, one, two
}

func expect(t *testing.T, what string, answers map[string]answer, want api.Errno) {
	t.Helper()
	for name, a := range answers {
		if a.e != want || !a.zero {
			t.Errorf("%s, %.80s: error %d, want %d; others zero: %t", name, what, a.e, want, a.zero)
		}
	}
}

func TestCheck(t *testing.T) {
	for _, x := range invalid() {
		if e := light.Check(x.n, x.edges); e != x.want {
			t.Errorf("Check of %d, %.80s: %d, want %d", x.n, fmt.Sprint(x.edges), e, x.want)
		}
	}
	for _, g := range append(small(), path(16), ring(16), complete(16), star(16, 15), graph{16, nil}, graph{16, [][2]int{}}) {
		if e := light.Check(g.n, g.edges); e != api.OK {
			t.Errorf("Check of %v: %d", g, e)
		}
	}
}

// All lists of at most two edges in and around a graph: they must go up, and each must lead from a lamp to a greater one.
func TestCheckOfAll(t *testing.T) {
	for n := 1; n <= 4; n++ {
		var all [][2]int
		for i := -1; i <= n; i++ {
			for j := -1; j <= n; j++ {
				all = append(all, [2]int{i, j})
			}
		}
		edges := complete(n).edges
		lists := [][][2]int{nil}
		for i, a := range all {
			lists = append(lists, [][2]int{a})
			for k := range all {
				lists = append(lists, [][2]int{all[i], all[k]})
			}
		}
		for _, l := range lists {
			want := api.OK
			last := -1
			for _, edge := range l {
				place := slices.Index(edges, edge)
				if place <= last {
					want = api.ErrGraph
				}
				last = place
			}
			if e := light.Check(n, l); e != want {
				t.Errorf("Check of %d, %v: %d, want %d", n, l, e, want)
			}
		}
	}
}

// The error of a graph comes before that of sets.
func TestInvalidGraphs(t *testing.T) {
	for _, x := range invalid() {
		for _, own := range []bool{false, true} {
			for _, p := range []int{0, 1, -1, 1 << 20} {
				what := fmt.Sprint(x.n, own, p, x.edges)
				none, one, two := callAll(x.graph, own, p, p)
				expect(t, what, none, x.want)
				expect(t, what, one, x.want)
				expect(t, what, two, x.want)
			}
		}
	}
}

func TestInvalidSets(t *testing.T) {
	for _, g := range []graph{path(1), path(2), path(5), ring(5), complete(16), {16, nil}} {
		for _, p := range []int{-1, 1 << g.n, 1<<g.n + 1, 1 << 16, 1 << 32, 1 << 40, math.MaxInt, math.MinInt} {
			for _, own := range []bool{false, true} {
				what := fmt.Sprint(p, " of ", g.n, own)
				_, one, two := callAll(g, own, p, p)
				expect(t, what, one, api.ErrArg)
				expect(t, what, two, api.ErrArg)
				_, _, two = callAll(g, own, p, 0)
				expect(t, what+", first", two, api.ErrArg)
				_, _, two = callAll(g, own, 0, p)
				expect(t, what+", second", two, api.ErrArg)
			}
		}
	}
}

// The greatest set is one, too.
func TestGreatestSet(t *testing.T) {
	for n := 1; n <= 16; n++ {
		_, one, two := callAll(path(n), true, 1<<n-1, 1<<n-1)
		for name, a := range one {
			if a.e != api.OK {
				t.Errorf("%s of all %d lamps: %d", name, n, a.e)
			}
		}
		expect(t, fmt.Sprint("all of ", n), two, api.OK)
	}
}

func TestEffect(t *testing.T) {
	for _, g := range small() {
		for _, own := range []bool{false, true} {
			for p := range 1 << g.n {
				want := effect(g, own, p)
				if s, e := light.Effect(g.n, g.edges, own, p); s != want || e != api.OK {
					t.Errorf("Effect of %d on %v, %t: %d, %d, want %d", p, g, own, s, e, want)
				}
			}
		}
	}
	for _, x := range []struct {
		graph
		own     bool
		p, want int
	}{
		{path(2), true, 1, 3}, {path(2), false, 1, 2}, {path(2), false, 2, 1}, {path(2), true, 3, 0}, {path(2), false, 3, 3},
		{path(1), true, 1, 1}, {path(1), false, 1, 0},
		{star(4, 2), false, 4, 11}, {star(4, 2), true, 4, 15}, {star(4, 2), false, 11, 4}, {star(4, 2), true, 11, 15},
		{path(16), false, 1 << 15, 1 << 14}, {path(16), true, 1 << 15, 3 << 14}, {path(16), true, 65535, 32766},
		{complete(16), false, 65535, 65535}, {complete(16), true, 65535, 0}, {complete(16), true, 32767, 65535},
		{graph{16, nil}, true, 43210, 43210}, {graph{16, nil}, false, 43210, 0},
	} {
		if s, e := light.Effect(x.n, x.edges, x.own, x.p); s != x.want || e != api.OK {
			t.Errorf("Effect of %d on %v, %t: %d, %d, want %d", x.p, x.graph, x.own, s, e, x.want)
		}
	}
}

// Arguments are neither changed nor kept, what lies beyond their length is not read, and results are new each time.
func TestMemory(t *testing.T) {
	edges := append(star(5, 0).edges, [2]int{99, 99})[:4]
	before := fmt.Sprint(edges[:5])
	read := func() string {
		text := ""
		for _, own := range []bool{false, true} {
			quiet, e := light.Quiet(5, edges, own)
			grid, lines, f := light.Grid(3, 4)
			powers, g := light.Polynomial(7)
			none, one, two := callAll(graph{5, edges}, own, 6, 3)
			text += fmt.Sprint(light.Check(5, edges), quiet, e, grid, lines, f, powers, g, none, one, two)
			// What the caller does with results must not be seen later.
			clear(quiet[:cap(quiet)])
			clear(lines[:cap(lines)])
			clear(powers[:cap(powers)])
		}
		return text
	}
	first := read()
	if second := read(); second != first {
		t.Errorf("a second time: %s, want %s", second, first)
	}
	if after := fmt.Sprint(edges[:5]); after != before {
		t.Errorf("arguments: %s, want %s", after, before)
	}
	edges[3] = [2]int{3, 4}
	if s, e := light.Effect(5, edges, false, 16); s != 8 || e != api.OK {
		t.Errorf("Effect after a change of the edges: %d, %d", s, e)
	}
}
