package hanoi_test

import (
	"fmt"
	"math"
	"slices"
	"strings"
	"testing"

	"bibelot/api"
	"bibelot/hanoi"
)

// changeable are the rings that the definition of a step allows to change.
func changeable(r string) []int {
	var rings []int
	for ring := range len(r) {
		if ring == 0 || r[ring-1] == '1' && !strings.Contains(r[:ring-1], "1") {
			rings = append(rings, ring)
		}
	}
	return rings
}

func changed(r string, ring int) string {
	return r[:ring] + string('0'+'1'-r[ring]) + r[ring+1:]
}

// steps are the least numbers of steps from rings to all others.
func steps(from string) map[string]int64 {
	far := map[string]int64{from: 0}
	queue := []string{from}
	for i := 0; i < len(queue); i++ {
		for _, ring := range changeable(queue[i]) {
			next := changed(queue[i], ring)
			if _, known := far[next]; !known {
				far[next] = far[queue[i]] + 1
				queue = append(queue, next)
			}
		}
	}
	return far
}

// someRings are rings that differ from one seed to another one.
func someRings(n int, seed uint64) string {
	rings := make([]byte, n)
	for i := range rings {
		seed = seed*6364136223846793005 + 1442695040888963407
		rings[i] = '0' + byte(seed>>40&1)
	}
	return string(rings)
}

func noRings() []string {
	return []string{"", "2", "/", "0 1", "01\n", "0x1", "\x00", "é", "0\xff1", "١", "𝟎𝟏", strings.Repeat("0", 61), strings.Repeat("1", 1000), strings.Repeat("2", 60), strings.Repeat("0", 59) + "-"}
}

func TestCheckRings(t *testing.T) {
	for _, r := range noRings() {
		equal(t, fmt.Sprintf("CheckRings of %q", r), spaced(hanoi.CheckRings(r)), spaced(api.ErrRings))
		l, e := hanoi.Steps(r)
		rank, f := hanoi.Rank(r)
		equal(t, fmt.Sprintf("Steps and Rank of %q", r), spaced(l, e, rank, f), "[] 31 0 31")
		for _, q := range []string{"0", "01", r, "", strings.Repeat("1", 60)} {
			equal(t, fmt.Sprintf("from %q to %q", r, q), between(r, q), "0 31 0 31")
			equal(t, fmt.Sprintf("from %q to %q", q, r), between(q, r), "0 31 0 31")
		}
	}
	for _, r := range []string{"0", "1", "01", strings.Repeat("0", 60), strings.Repeat("1", 60)} {
		equal(t, fmt.Sprintf("CheckRings of %q", r), spaced(hanoi.CheckRings(r)), spaced(api.OK))
	}
}

// between are the results of the functions that take two strings.
func between(r, q string) string {
	n, e := hanoi.Between(r, q)
	next, f := hanoi.Next(r, q)
	return spaced(n, e, next, f)
}

func TestRingsShapes(t *testing.T) {
	for _, x := range [][2]string{{"0", "00"}, {"10", "1"}, {"1", strings.Repeat("1", 60)}, {strings.Repeat("0", 60), strings.Repeat("0", 59)}} {
		equal(t, spaced(x), between(x[0], x[1]), "0 6 0 6")
	}
}

func TestRanks(t *testing.T) {
	for n := 1; n <= 10; n++ {
		far := steps(strings.Repeat("0", n))
		var ranks []int64
		for r, want := range far {
			rank, e := hanoi.Rank(r)
			back, f := hanoi.Unrank(n, want)
			equal(t, "Rank of "+r, spaced(rank, e, back, f), spaced(want, api.OK, r, api.OK))
			l, e := hanoi.Steps(r)
			equal(t, "Steps of "+r, spaced(l, e), spaced(changeable(r), api.OK))
			for _, ring := range l {
				after, _ := hanoi.Rank(changed(r, ring))
				if after != rank+1 && after != rank-1 {
					t.Errorf("from %s of rank %d to rank %d", r, rank, after)
				}
			}
			ranks = append(ranks, rank)
		}
		slices.Sort(ranks)
		for i, rank := range ranks {
			if rank != int64(i) || len(ranks) != 1<<n {
				t.Fatalf("%d rings: rank %d of %d is %d", n, i, len(ranks), rank)
			}
		}
	}
}

func TestBetween(t *testing.T) {
	for n := 1; n <= 6; n++ {
		for r := range steps(strings.Repeat("0", n)) {
			for q, want := range steps(r) {
				d, e := hanoi.Between(r, q)
				equal(t, "Between "+r+" and "+q, spaced(d, e), spaced(want, api.OK))
				a, _ := hanoi.Rank(r)
				b, _ := hanoi.Rank(q)
				if d != max(a-b, b-a) {
					t.Errorf("from rank %d to rank %d: %d", a, b, d)
				}
				next, e := hanoi.Next(r, q)
				if r == q {
					equal(t, "Next from "+r+" to itself", spaced(next, e), "0 1")
				} else if e != api.OK || !slices.Contains(changeable(r), next) || steps(changed(r, next))[q] != want-1 {
					t.Errorf("Next from %s to %s: %d, %d", r, q, next, e)
				}
			}
		}
	}
}

func TestKnownRings(t *testing.T) {
	for _, x := range []struct {
		r    string
		want string
	}{
		{"0", "0 [0]"},
		{"1", "1 [0]"},
		{"11", "2 [0 1]"},
		{"01", "3 [0]"},
		{"10", "1 [0 1]"},
		{"010", "3 [0 2]"},
		{"111", "5 [0 1]"},
		{"1111", "10 [0 1]"},
		{strings.Repeat("0", 60), "0 [0]"},
		{strings.Repeat("0", 59) + "1", spaced(1<<60-1, "[0]")},
		{strings.Repeat("0", 58) + "10", spaced(1<<59-1, "[0 59]")},
		{strings.Repeat("0", 58) + "11", spaced(1<<59, "[0 59]")},
	} {
		rank, e := hanoi.Rank(x.r)
		l, f := hanoi.Steps(x.r)
		equal(t, x.r, spaced(rank, l, e, f), x.want+" 0 0")
	}
	equal(t, "from 00 to 01", between("00", "01"), "3 0 0 0")
	equal(t, "from 01 to 00", between("01", "00"), "3 0 0 0")
	equal(t, "from 10 to 01", between("10", "01"), "2 0 1 0")
	equal(t, "from 010 to 001", between("010", "001"), "4 0 2 0")
}

func TestAllOn(t *testing.T) {
	for n := 1; n <= 60; n++ {
		want := (int64(1)<<(n+1) - 1) / 3
		if n%2 == 0 {
			want = (int64(1)<<(n+1) - 2) / 3
		}
		r := strings.Repeat("1", n)
		rank, e := hanoi.Rank(r)
		back, f := hanoi.Unrank(n, want)
		equal(t, spaced("Rank of", n, "rings that are on"), spaced(rank, e, back, f), spaced(want, api.OK, r, api.OK))
	}
}

func TestManyRings(t *testing.T) {
	for seed := range uint64(200) {
		r, q := someRings(60, 2*seed), someRings(60, 2*seed+1)
		from, e := hanoi.Rank(r)
		to, f := hanoi.Rank(q)
		back, g := hanoi.Unrank(60, from)
		equal(t, "there and back", spaced(back, e, f, g), r+" 0 0 0")
		next, e := hanoi.Next(r, q)
		d, f := hanoi.Between(r, q)
		after, _ := hanoi.Rank(changed(r, next))
		if !slices.Contains(changeable(r), next) || d != max(from-to, to-from) || max(after-to, to-after) != d-1 || e != api.OK || f != api.OK {
			t.Errorf("from %s to %s: next %d, %d steps", r, q, next, d)
		}
	}
}

func TestUnrank(t *testing.T) {
	for _, x := range []struct {
		n    int
		rank int64
	}{{0, 0}, {-1, 0}, {61, 0}, {62, 1}, {63, 1}, {64, 0}, {math.MinInt, 0}, {math.MaxInt, 0}, {1, 2}, {2, 4}, {2, -1}, {60, 1 << 60}, {60, -1}, {60, math.MaxInt64}, {1, math.MinInt64}, {59, 1 << 59}} {
		r, e := hanoi.Unrank(x.n, x.rank)
		equal(t, spaced("Unrank of", x), fmt.Sprintf("%q %d", r, e), `"" 1`)
	}
	for _, x := range []struct {
		n    int
		rank int64
		want string
	}{{1, 0, "0"}, {1, 1, "1"}, {2, 3, "01"}, {60, 0, strings.Repeat("0", 60)}, {60, 1<<60 - 1, strings.Repeat("0", 59) + "1"}, {5, 0, "00000"}} {
		r, e := hanoi.Unrank(x.n, x.rank)
		equal(t, spaced("Unrank of", x.n, "", x.rank), spaced(r, e), x.want+" 0")
	}
}
