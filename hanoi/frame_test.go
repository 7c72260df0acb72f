package hanoi_test

import (
	"math"
	"slices"
	"testing"

	"bibelot/api"
	"bibelot/hanoi"
)

// choose is how many sets of k of n things there are.
func choose(n, k int) int {
	out := 1
	for i := range k {
		out = out * (n - i) / (i + 1)
	}
	return out
}

// frameByPowers adds up what each disc adds to Frame's number: a power of two, and as many discs in a row add the i-th power as there are sets of p - 3 of i + p - 3 things.
func frameByPowers(n, p int) int64 {
	sum := int64(0)
	for i := 0; n > 0; i++ {
		discs := min(n, choose(i+p-3, p-3))
		sum += int64(discs) << i
		n -= discs
	}
	return sum
}

// wrong are numbers of discs and pegs that are out of range.
func wrong() [][2]int {
	return [][2]int{{-1, 3}, {41, 3}, {41, 8}, {3, 2}, {3, 9}, {0, 2}, {0, 9}, {3, 0}, {3, -3}, {math.MinInt, 4}, {math.MaxInt, 4}, {4, math.MinInt}, {4, math.MaxInt}}
}

func TestFrame(t *testing.T) {
	for p := 3; p <= 8; p++ {
		for n := range 41 {
			number, e := hanoi.Frame(n, p)
			equal(t, spaced("Frame of", n, "and", p), spaced(number, e), spaced(frameByPowers(n, p), api.OK))
		}
	}
	for _, x := range []struct {
		n, p int
		want int64
	}{{0, 3, 0}, {1, 3, 1}, {5, 3, 31}, {40, 3, 1<<40 - 1}, {0, 8, 0}, {1, 4, 1}, {2, 8, 3}, {4, 4, 9}, {5, 4, 13}, {6, 5, 15}, {64 - 24, 4, 2817}} {
		number, e := hanoi.Frame(x.n, x.p)
		equal(t, spaced("Frame of", x.n, "and", x.p), spaced(number, e), spaced(x.want, api.OK))
	}
	for _, x := range wrong() {
		number, e := hanoi.Frame(x[0], x[1])
		way, f := hanoi.FrameWay(x[0], x[1])
		fewest, g := hanoi.Fewest(x[0], x[1])
		equal(t, spaced(x), spaced(number, e, way, f, fewest, g), "0 1 [] 1 0 1")
	}
}

func TestFrameByDefinition(t *testing.T) {
	known := map[[2]int]int64{}
	var frame func(n, p int) int64
	frame = func(n, p int) int64 {
		if p == 3 {
			return 1<<n - 1
		} else if n < 2 {
			return int64(n)
		}
		if number, ok := known[[2]int{n, p}]; ok {
			return number
		}
		least := int64(math.MaxInt64)
		for k := 1; k < n; k++ {
			least = min(least, 2*frame(k, p)+frame(n-k, p-1))
		}
		known[[2]int{n, p}] = least
		return least
	}
	for p := 3; p <= 8; p++ {
		for n := range 41 {
			number, e := hanoi.Frame(n, p)
			equal(t, spaced("Frame of", n, "and", p), spaced(number, e), spaced(frame(n, p), api.OK))
		}
	}
}

func TestFrameWay(t *testing.T) {
	longest := map[int]int{}
	for p := 3; p <= 8; p++ {
		for n := range 41 {
			way, e := hanoi.FrameWay(n, p)
			want := frameByPowers(n, p)
			if want > 5000 {
				equal(t, spaced("FrameWay of", n, "and", p), spaced(way, e), "[] 1")
				continue
			}
			longest[p] = n
			if int64(len(way)) != want || e != api.OK || !slices.Equal(end(on(n, 0), p, way), on(n, p-1)) {
				t.Errorf("FrameWay of %d and %d: %d moves, %d, want %d", n, p, len(way), e, want)
			}
		}
	}
	equal(t, "discs with a way", spaced(longest), "map[3:12 4:40 5:40 6:40 7:40 8:40]")
}

// fewestMoves searches from both ends at once, position by position, for discs on any number of pegs.
func fewestMoves(n, p int) int {
	ends := [2]map[string][]int{{spaced(on(n, 0)): on(n, 0)}, {spaced(on(n, p-1)): on(n, p-1)}}
	seen := [2]map[string]bool{{}, {}}
	for moves := 0; ; moves++ {
		for key := range ends[0] {
			if ends[1][key] != nil {
				return moves
			}
		}
		side := moves % 2
		next := map[string][]int{}
		for key, discs := range ends[side] {
			seen[side][key] = true
			for _, move := range legal(discs, p) {
				after := slices.Clone(discs)
				after[move[0]] = move[1]
				if key := spaced(after); !seen[side][key] {
					next[key] = after
				}
			}
		}
		ends[side] = next
	}
}

func TestFewest(t *testing.T) {
	most := map[int]int{}
	for p := 3; p <= 8; p++ {
		for n := range 41 {
			fewest, e := hanoi.Fewest(n, p)
			if math.Pow(float64(p), float64(n)) > 70000 {
				equal(t, spaced("Fewest of", n, "and", p), spaced(fewest, e), "0 1")
				continue
			}
			most[p] = n
			// P3.8: it is Frame's number wherever it is asked.
			equal(t, spaced("Fewest of", n, "and", p), spaced(fewest, e), spaced(frameByPowers(n, p), api.OK))
		}
	}
	equal(t, "discs with a search", spaced(most), "map[3:10 4:8 5:6 6:6 7:5 8:5]")
	for _, x := range [][2]int{{0, 3}, {1, 3}, {2, 3}, {6, 3}, {1, 4}, {3, 4}, {5, 4}, {6, 4}, {4, 5}, {5, 5}, {4, 6}, {4, 7}, {0, 8}, {2, 8}, {4, 8}} {
		fewest, e := hanoi.Fewest(x[0], x[1])
		want := 0
		if x[0] > 0 {
			want = fewestMoves(x[0], x[1])
		}
		equal(t, spaced("Fewest of", x), spaced(fewest, e), spaced(want, api.OK))
	}
}
