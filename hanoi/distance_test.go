package hanoi_test

import (
	"slices"
	"testing"

	"bibelot/api"
	"bibelot/hanoi"
)

// graph are for each position of n discs on three pegs the moves that lead to another one.
type graph struct {
	n    int
	next [][]arrow
}

type arrow struct {
	to, disc int
}

func graphOf(n int) graph {
	g := graph{n, make([][]arrow, power(3, n))}
	for number := range g.next {
		discs := numbered(number, n, 3)
		for _, move := range legal(discs, 3) {
			to := number + (move[1]-discs[move[0]])*power(3, move[0])
			g.next[number] = append(g.next[number], arrow{to, move[0]})
		}
	}
	return g
}

// shortest tells of each position how far it is from one, how many shortest ways lead to it, and for each disc, as bits, how often it moves on some of these.
type shortest struct {
	far   int64
	ways  int
	often [8]uint64
}

func (g graph) from(start int) []shortest {
	all := make([]shortest, len(g.next))
	for i := range all {
		all[i].far = -1
	}
	all[start] = shortest{far: 0, ways: 1}
	for disc := range g.n {
		all[start].often[disc] = 1
	}
	queue := []int{start}
	for i := 0; i < len(queue); i++ {
		now := &all[queue[i]]
		for _, a := range g.next[queue[i]] {
			next := &all[a.to]
			if next.far < 0 {
				next.far = now.far + 1
				queue = append(queue, a.to)
			}
			if next.far != now.far+1 {
				continue
			}
			next.ways += now.ways
			for disc := range g.n {
				bits := now.often[disc]
				if disc == a.disc {
					bits <<= 1
				}
				next.often[disc] |= bits
			}
		}
	}
	return all
}

// greatest is the greatest disc whose pegs differ.
func greatest(s, q []int) int {
	disc := len(s) - 1
	for s[disc] == q[disc] {
		disc--
	}
	return disc
}

// kindOf is the kind by its definition.
func kindOf(often uint64) int {
	return map[uint64]int{1 << 1: 1, 1 << 2: 2, 1<<1 | 1<<2: 3}[often]
}

func isOnePeg(discs []int) bool {
	return slices.Max(discs) == slices.Min(discs)
}

func TestShortest(t *testing.T) {
	kinds := map[int]int{}
	for n := 1; n <= 5; n++ {
		g := graphOf(n)
		for number := range g.next {
			s := numbered(number, n, 3)
			most := int64(0)
			for other, want := range g.from(number) {
				q := numbered(other, n, 3)
				most = max(most, want.far)
				d, e := hanoi.Distance(s, q)
				way, f := hanoi.Way(s, q)
				if d != want.far || e != api.OK || int64(len(way)) != d || f != api.OK || !slices.Equal(end(s, 3, way), q) {
					t.Fatalf("from %v to %v: distance %d, %d, way %v, %d, want %d", s, q, d, e, way, f, want.far)
				}
				kind, e := hanoi.Kind(s, q)
				if number == other {
					equal(t, spaced("Kind of", s, "and itself"), spaced(kind, e), "0 1")
					continue
				}
				// P3.5: one or two great moves, and at most two shortest ways, or one from or to a single peg.
				wanted := kindOf(want.often[greatest(s, q)])
				kinds[wanted]++
				if kind != wanted || kind == 0 || e != api.OK {
					t.Fatalf("Kind of %v and %v: %d, %d, want %d", s, q, kind, e, wanted)
				}
				if want.ways > 2 || want.ways > 1 && (isOnePeg(s) || isOnePeg(q)) || kind == 3 && want.ways != 2 {
					t.Errorf("%d shortest ways from %v to %v, kind %d", want.ways, s, q, kind)
				}
			}
			farthest, e := hanoi.Farthest(s)
			equal(t, spaced("Farthest of", s), spaced(farthest, e), spaced(most, api.OK))
		}
	}
	for kind := 1; kind <= 3; kind++ {
		if kinds[kind] == 0 {
			t.Errorf("no pair of kind %d", kind)
		}
	}
}

func TestKnownDistances(t *testing.T) {
	for _, x := range []struct {
		s, q []int
		kind int
		d    int64
	}{
		{[]int{0}, []int{1}, 1, 1},
		{[]int{0, 0, 0}, []int{2, 2, 2}, 1, 7},
		{[]int{1, 0}, []int{0, 1}, 3, 3},
		{[]int{1, 0}, []int{1, 1}, 1, 3},
		{[]int{1, 1, 0}, []int{0, 0, 1}, 2, 5},
		{append(on(39, 1), 0), append(on(39, 0), 1), 2, 1<<39 + 1},
		{append(on(39, 2), 0), append(on(39, 2), 1), 1, 1},
		{append(on(39, 1), 0), append([]int{0}, on(39, 1)...), 3, 1<<40 - 1},
		{append(on(39, 1), 0), append(on(39, 2), 0), 1, 1<<39 - 1},
	} {
		d, e := hanoi.Distance(x.s, x.q)
		kind, f := hanoi.Kind(x.s, x.q)
		if d != x.d || kind != x.kind || e != api.OK || f != api.OK {
			t.Errorf("from %v to %v: %d, kind %d, want %d, kind %d", x.s, x.q, d, kind, x.d, x.kind)
		}
	}
}

func TestSameDiscs(t *testing.T) {
	for _, s := range [][]int{{0}, {2, 1}, on(12, 1), some(12, 3)} {
		equal(t, spaced("from", s, "to itself"), two(s, s), "0 0 0 1 [] 0")
	}
	for _, s := range [][]int{on(13, 1), on(40, 2), some(40, 7)} {
		equal(t, spaced("from", s, "to itself"), two(s, s), "0 0 0 1 [] 1")
	}
}

func TestLongWays(t *testing.T) {
	for seed := range uint64(100) {
		s, q := some(12, 2*seed), some(12, 2*seed+1)
		if seed == 0 {
			s, q = on(12, 0), on(12, 2)
		}
		d, _ := hanoi.Distance(s, q)
		way, e := hanoi.Way(s, q)
		if int64(len(way)) != d || e != api.OK || !slices.Equal(end(s, 3, way), q) {
			t.Errorf("Way from %v to %v: %d moves, %d, want %d", s, q, len(way), e, d)
		}
		after, made, e := hanoi.Play(s, way)
		equal(t, spaced("Play of the way from", s), spaced(after, made, e), spaced(q, len(way), api.OK))
	}
	for n := 13; n <= 40; n++ {
		way, e := hanoi.Way(on(n, 0), append(on(n-1, 0), 1))
		equal(t, spaced("Way of", n, "discs"), spaced(way, e), "[] 1")
	}
}

func TestOnePeg(t *testing.T) {
	for n := 1; n <= 40; n++ {
		longest := int64(1)<<n - 1
		for from := range 3 {
			s := on(n, from)
			farthest, e := hanoi.Farthest(s)
			equal(t, spaced("Farthest of", s), spaced(farthest, e), spaced(longest, api.OK))
			for to := range 3 {
				want := longest
				if from == to {
					want = 0
				}
				d, e := hanoi.Distance(s, on(n, to))
				equal(t, spaced("Distance of", n, "from peg", from, "to", to), spaced(d, e), spaced(want, api.OK))
			}
			for seed := range uint64(10) {
				d, e := hanoi.Distance(s, some(n, seed))
				back, f := hanoi.Distance(some(n, seed), s)
				if d > longest || d != back || e != api.OK || f != api.OK {
					t.Errorf("Distance from %v to %v: %d, %d", s, some(n, seed), d, back)
				}
			}
		}
	}
}

func distance(t *testing.T, s, q []int) int64 {
	t.Helper()
	d, e := hanoi.Distance(s, q)
	if e != api.OK {
		t.Errorf("Distance from %v to %v: %d", s, q, e)
	}
	return d
}

func renamed(discs []int, pegs [3]int) []int {
	out := make([]int, len(discs))
	for i, peg := range discs {
		out[i] = pegs[peg]
	}
	return out
}

func checkMetric(t *testing.T, r, s, q []int) {
	t.Helper()
	rs, sq, rq := distance(t, r, s), distance(t, s, q), distance(t, r, q)
	if rq > rs+sq || rs != distance(t, s, r) || (rs == 0) != slices.Equal(r, s) || rs < 0 {
		t.Errorf("no metric: %v, %v, %v: %d, %d, %d", r, s, q, rs, sq, rq)
	}
	for _, pegs := range [][3]int{{0, 2, 1}, {1, 0, 2}, {1, 2, 0}, {2, 0, 1}, {2, 1, 0}} {
		if d := distance(t, renamed(r, pegs), renamed(s, pegs)); d != rs {
			t.Errorf("renamed as %v, %v to %v: %d, not %d", pegs, r, s, d, rs)
		}
	}
}

func TestMetric(t *testing.T) {
	for a := range 27 {
		for b := range 27 {
			for c := range 27 {
				checkMetric(t, numbered(a, 3, 3), numbered(b, 3, 3), numbered(c, 3, 3))
			}
		}
	}
	for seed := range uint64(300) {
		checkMetric(t, some(40, 3*seed), some(40, 3*seed+1), some(40, 3*seed+2))
	}
}

func TestFarthest(t *testing.T) {
	for _, s := range [][]int{some(10, 1), some(10, 2), some(11, 3), {0, 1, 2, 0, 1, 2, 0, 1, 2, 0, 1}, {0, 1, 0, 1, 0, 1, 0, 1, 0, 1}, {0, 1, 1, 1, 1, 1, 1, 1, 1, 2}} {
		most := int64(0)
		for number := range power(3, len(s)) {
			most = max(most, distance(t, s, numbered(number, len(s), 3)))
		}
		farthest, e := hanoi.Farthest(s)
		equal(t, spaced("Farthest of", s), spaced(farthest, e), spaced(most, api.OK))
	}
	// Far discs are found by going from the greatest disc down to the peg that is farther.
	for seed := range uint64(40) {
		s := some(40, seed)
		far := slices.Clone(s)
		most := int64(0)
		for range 3 {
			for disc := len(s) - 1; disc >= 0; disc-- {
				most, far[disc] = farther(t, s, far, disc)
			}
		}
		farthest, e := hanoi.Farthest(s)
		equal(t, spaced("Farthest of", s), spaced(farthest, e), spaced(most, api.OK))
	}
}

// farther is the greatest distance from s that a disc can bring other discs to, and the peg for that.
func farther(t *testing.T, s, q []int, disc int) (int64, int) {
	t.Helper()
	most, best := distance(t, s, q), q[disc]
	for peg := range 3 {
		other := slices.Clone(q)
		other[disc] = peg
		if d := distance(t, s, other); d > most {
			most, best = d, peg
		}
	}
	return most, best
}

func TestTotal(t *testing.T) {
	for n := 1; n <= 7; n++ {
		g := graphOf(n)
		want := int64(0)
		for number := range g.next {
			// Renaming the pegs, the greatest disc is on peg 0.
			if 3*number >= len(g.next) {
				break
			}
			for _, x := range g.from(number) {
				want += 3 * x.far
			}
		}
		total, e := hanoi.Total(n)
		equal(t, spaced("Total of", n), spaced(total, e), spaced(want, api.OK))
	}
	total, e := hanoi.Total(1)
	equal(t, "Total of 1", spaced(total, e), "6 0")
	for _, n := range []int{0, -1, 8, 40, -1 << 63, 1<<63 - 1} {
		total, e := hanoi.Total(n)
		equal(t, spaced("Total of", n), spaced(total, e), "0 1")
	}
}
