package magic_test

import (
	"fmt"
	"math"
	"slices"
	"testing"

	"bibelot/api"
	"bibelot/magic"
)

func loShu() [][]int {
	return [][]int{{2, 7, 6}, {9, 5, 1}, {4, 3, 8}}
}

// durer is associated, but not pandiagonal.
func durer() [][]int {
	return [][]int{{16, 3, 2, 13}, {5, 10, 11, 8}, {9, 6, 7, 12}, {4, 15, 14, 1}}
}

// nasik is pandiagonal, but not associated.
func nasik() [][]int {
	return [][]int{{1, 8, 13, 12}, {14, 11, 2, 7}, {4, 5, 16, 9}, {15, 10, 3, 6}}
}

// five is pandiagonal and associated.
func five() [][]int {
	return mapped(5, func(i, k int) int { return 5*((i+2*k+1)%5) + (2*i+k+1)%5 + 1 })
}

// siamese is magic for odd orders; for 5 and 7 the broken diagonals in one direction have the magic sum, too, but not those in the other one.
func siamese(n int) [][]int {
	return mapped(n, func(i, k int) int { return n*((i+k+1+n/2)%n) + (i+2*k+2)%n + 1 })
}

// natural has its numbers one after the other.
func natural(n int) [][]int {
	return mapped(n, func(i, k int) int { return n*i + k + 1 })
}

func mapped(n int, f func(i, k int) int) [][]int {
	s := make([][]int, n)
	for i := range s {
		s[i] = make([]int, n)
		for k := range s[i] {
			s[i][k] = f(i, k)
		}
	}
	return s
}

func cloned(s [][]int) [][]int {
	out := slices.Clone(s)
	for i := range out {
		out[i] = slices.Clone(out[i])
	}
	return out
}

// numbers makes a source of numbers below a bound, always the same ones for a seed.
func numbers(seed uint64) func(below int) int {
	return func(below int) int {
		seed = seed*6364136223846793005 + 1442695040888963407
		return int(seed >> 33 % uint64(below))
	}
}

// shuffled has the numbers from 1 to n^2 in some order.
func shuffled(n int, next func(int) int) [][]int {
	list := make([]int, n*n)
	for i := range list {
		k := next(i + 1)
		list[i] = list[k]
		list[k] = i + 1
	}
	return mapped(n, func(i, k int) int { return list[n*i+k] })
}

// normalSquares are of several kinds.
func normalSquares(n int, next func(int) int) [][][]int {
	squares := [][][]int{natural(n), shuffled(n, next), shuffled(n, next)}
	for _, f := range []func(int) ([][]int, api.Errno){magic.Make, magic.MakePandiagonal} {
		if s, e := f(n); e == api.OK {
			squares = append(squares, s)
		}
	}
	if n%2 == 1 {
		s := siamese(n)
		squares = append(squares, s, mapped(n, func(i, k int) int { return s[i][n-1-k] }))
	}
	switch n {
	case 4:
		squares = append(squares, durer(), nasik())
	case 5:
		squares = append(squares, five())
	}
	return squares
}

// kinds are normal, magic, pandiagonal, associated.
type kinds [4]bool

// kindsOf follows the definitions place by place.
func kindsOf(s [][]int) kinds {
	n := len(s)
	var flat []int
	for _, l := range s {
		flat = append(flat, l...)
	}
	slices.Sort(flat)
	for i, x := range flat {
		if x != i+1 {
			return kinds{}
		}
	}
	linesSum, brokenSum, opposite := map[int]bool{}, map[int]bool{}, map[int]bool{}
	var main, other int
	for i := range n {
		row, column, down, up := 0, 0, 0, 0
		for k := range n {
			row += s[i][k]
			column += s[k][i]
			for m := range n {
				if (k+m)%n == i {
					up += s[k][m]
				}
				if (k-m+n)%n == i {
					down += s[k][m]
				}
			}
			opposite[s[i][k]+s[n-1-i][n-1-k]] = true
		}
		linesSum[row], linesSum[column] = true, true
		brokenSum[down], brokenSum[up] = true, true
		main += s[i][i]
		other += s[i][n-1-i]
	}
	linesSum[main], linesSum[other] = true, true
	isMagic := len(linesSum) == 1
	for sum := range linesSum {
		brokenSum[sum] = true
	}
	return kinds{true, isMagic, isMagic && len(brokenSum) == 1, len(opposite) == 1 && opposite[n*n+1]}
}

func checkKinds(t *testing.T, s [][]int, want kinds) {
	t.Helper()
	for i, f := range []func([][]int) (bool, api.Errno){magic.Normal, magic.Magic, magic.Pandiagonal, magic.Associated} {
		if is, e := f(s); is != want[i] || e != api.OK {
			t.Errorf("%s of %v: %t, %d, want %t", [4]string{"Normal", "Magic", "Pandiagonal", "Associated"}[i], s, is, e, want[i])
		}
	}
}

// noSquares are lists that are no squares.
func noSquares() [][][]int {
	list := [][][]int{
		nil, {}, {nil}, {{}}, {{1, 2}}, {{1}, {2}}, {{1, 2}, {3}}, {{1}, {2, 3}}, {{1, 2}, nil}, {nil, {1, 2}}, {{1, 2}, {3, 4}, {5, 6}}, {{1, 2, 3}, {4, 5, 6}},
		{{1, 2, 3}, {4, 5, 6}, {7, 8, 9, 10}}, {{1, 2}, {3, 4}, {}}, {nil, nil}, make([][]int, 8), make([][]int, 9), natural(9), natural(12), make([][]int, 1000),
		{{1, 2, 3}, {4, 5}, {6, 7, 8, 9}},
	}
	short := natural(8)
	short[7] = short[7][:7]
	long := natural(8)
	long[0] = append(long[0], 65)
	return append(list, short, long, natural(8)[:7])
}

func TestCheck(t *testing.T) {
	for n := 1; n <= 8; n++ {
		for _, x := range []int{0, 1, -1, 5, math.MaxInt, math.MinInt} {
			if e := magic.Check(mapped(n, func(i, k int) int { return x })); e != api.OK {
				t.Errorf("Check of order %d, all %d: %d", n, x, e)
			}
		}
		if e := magic.Check(natural(n)); e != api.OK {
			t.Errorf("Check of order %d: %d", n, e)
		}
	}
	for _, s := range noSquares() {
		if e := magic.Check(s); e != api.ErrSquare {
			t.Errorf("Check of %v: %d", s, e)
		}
	}
}

// Every call refuses what is no square, before anything else, and returns nothing with it.
func TestNoSquare(t *testing.T) {
	for _, s := range noSquares() {
		got := map[string]string{}
		for name, f := range map[string]func([][]int) (bool, api.Errno){"Normal": magic.Normal, "Magic": magic.Magic, "Pandiagonal": magic.Pandiagonal, "Associated": magic.Associated} {
			is, e := f(s)
			got[name] = fmt.Sprint(is, e)
		}
		want := fmt.Sprint(false, api.ErrSquare)
		turns, e := magic.Turns(s)
		got["Turns"] = fmt.Sprint(len(turns) > 0, e)
		first, e := magic.First(s)
		got["First"] = fmt.Sprint(len(first) > 0, e)
		filling, ok, e := magic.Fill(s)
		got["Fill"] = fmt.Sprint(len(filling) > 0 || ok, e)
		for _, most := range []int{1, 0, 8001} {
			many, e := magic.Fillings(s, most)
			got["Fillings"+fmt.Sprint(most)] = fmt.Sprint(many != 0, e)
		}
		opposite, e := magic.Opposite(s)
		got["Opposite"] = fmt.Sprint(len(opposite) > 0, e)
		for i, pair := range [][2][][]int{{s, {{1}}}, {{{1}}, s}, {s, s}, {{{2}}, s}, {s, {{2}}}, {natural(8), s}, {s, natural(8)}} {
			composed, e := magic.Compose(pair[0], pair[1])
			got["Compose"+fmt.Sprint(i)] = fmt.Sprint(len(composed) > 0, e)
		}
		for name, x := range got {
			if x != want {
				t.Errorf("%s of %v: %s", name, s, x)
			}
		}
	}
}

func TestKindsKnown(t *testing.T) {
	for _, x := range []struct {
		s    [][]int
		want kinds
	}{
		{[][]int{{1}}, kinds{true, true, true, true}},
		{[][]int{{0}}, kinds{}}, {[][]int{{2}}, kinds{}}, {[][]int{{-1}}, kinds{}},
		{[][]int{{1, 2}, {3, 4}}, kinds{true, false, false, true}},
		{[][]int{{1, 2}, {4, 3}}, kinds{true, false, false, false}},
		{[][]int{{1, 1}, {1, 1}}, kinds{}}, {[][]int{{0, 1}, {2, 3}}, kinds{}}, {[][]int{{2, 3}, {4, 5}}, kinds{}},
		{loShu(), kinds{true, true, false, true}},
		{[][]int{{0, 0, 0}, {0, 0, 0}, {0, 0, 0}}, kinds{}},
		{[][]int{{5, 5, 5}, {5, 5, 5}, {5, 5, 5}}, kinds{}}, // all sums and pairs are right
		{[][]int{{1, 5, 9}, {8, 3, 4}, {6, 7, 2}}, kinds{true, false, false, false}},
		{natural(3), kinds{true, false, false, true}},
		{durer(), kinds{true, true, false, true}},
		{nasik(), kinds{true, true, true, false}},
		{five(), kinds{true, true, true, true}},
		{siamese(5), kinds{true, true, false, false}}, {siamese(7), kinds{true, true, false, false}},
		{[][]int{{1 << 62, 1 << 62}, {1 << 62, 1 << 62}}, kinds{}},
		{[][]int{{math.MaxInt, math.MinInt}, {1, 2}}, kinds{}},
		{[][]int{{1<<32 + 1}}, kinds{}}, {[][]int{{257, 2}, {3, 4}}, kinds{}},
		{mapped(8, func(i, k int) int { return math.MinInt }), kinds{}},
	} {
		checkKinds(t, x.s, x.want)
	}
}

// All squares of the orders 1 and 2 with numbers from 0 to n^2 + 1, all normal ones of order 3.
func TestKindsSmall(t *testing.T) {
	for x := -1; x <= 3; x++ {
		checkKinds(t, [][]int{{x}}, kindsOf([][]int{{x}}))
	}
	for x := range 6 * 6 * 6 * 6 {
		s := [][]int{{x % 6, x / 6 % 6}, {x / 36 % 6, x / 216}}
		checkKinds(t, s, kindsOf(s))
	}
	s := natural(3)
	var swap func(from int)
	swap = func(from int) {
		if from == 9 {
			checkKinds(t, s, kindsOf(s))
		}
		for to := from; to < 9; to++ {
			a, b := &s[from/3][from%3], &s[to/3][to%3]
			*a, *b = *b, *a
			swap(from + 1)
			*a, *b = *b, *a
		}
	}
	swap(0)
}

// Squares of all orders from magic ones: with two numbers, two rows or two columns exchanged, turned round the edges, or shuffled.
func TestKindsLarge(t *testing.T) {
	next := numbers(5)
	for n := 3; n <= 8; n++ {
		for _, s := range normalSquares(n, next) {
			checkKinds(t, s, kindsOf(s))
			for range 200 {
				a, b, c, d := next(n), next(n), next(n), next(n)
				for _, f := range []func(i, k int) int{
					func(i, k int) int { return s[(i+a)%n][(k+b)%n] },
					func(i, k int) int { return s[exchanged(i, a, b)][k] },
					func(i, k int) int { return s[i][exchanged(k, a, b)] },
					func(i, k int) int { return s[exchanged(i, a, b)][exchanged(k, a, b)] },
					func(i, k int) int { return s[exchanged(i, a, b)][exchanged(k, c, d)] },
				} {
					changed := mapped(n, f)
					checkKinds(t, changed, kindsOf(changed))
				}
				changed := cloned(s)
				changed[a][b], changed[c][d] = changed[c][d], changed[a][b]
				checkKinds(t, changed, kindsOf(changed))
				changed[a][b] = changed[next(n)][next(n)]
				checkKinds(t, changed, kindsOf(changed))
				changed[a][b] = n*n + 1
				checkKinds(t, changed, kindsOf(changed))
			}
		}
	}
}

// exchanged is i, but b for a and a for b.
func exchanged(i, a, b int) int {
	switch i {
	case a:
		return b
	case b:
		return a
	}
	return i
}

// Arguments are not changed, nor is what lies beyond their lengths; results share no memory (R4).
func TestMemory(t *testing.T) {
	room := make([]int, 0, 20)
	s := make([][]int, 0, 8)
	for _, l := range durer() {
		start := len(room)
		room = append(append(room, l...), -7) // beyond the row
		s = append(s, room[start:start+4])
	}
	open := cloned(s)
	open[1][2], open[3][3] = 0, 0
	before := fmt.Sprint(room, s, s[:8], open)
	var results [][][]int
	for range 2 {
		turns, _ := magic.Turns(s)
		results = append(results, turns...)
		first, _ := magic.First(s)
		opposite, _ := magic.Opposite(s)
		filling, _, _ := magic.Fill(open)
		same, _, _ := magic.Fill(s)
		a, _ := magic.Compose(s, [][]int{{1}})
		b, _ := magic.Compose([][]int{{1}}, s)
		results = append(results, first, opposite, filling, same, a, b)
		for n := 1; n <= 8; n++ {
			made, _ := magic.Make(n)
			pandiagonal, _ := magic.MakePandiagonal(n)
			results = append(results, made, pandiagonal)
		}
		magic.Fillings(open, 3)
	}
	if got := fmt.Sprint(room, s, s[:8], open); got != before {
		t.Errorf("arguments were %s, are %s", before, got)
	}
	// Each result gets a mark of its own everywhere, its rows' room included, and keeps it.
	for mark, l := range results {
		for i := range l {
			row := l[i][:cap(l[i])]
			for k := range row {
				row[k] = 100*mark + i
			}
		}
	}
	for mark, l := range results {
		for i, row := range l {
			for _, x := range row {
				if x != 100*mark+i {
					t.Fatalf("result %d shares memory", mark)
				}
			}
		}
	}
	if got := fmt.Sprint(room, s, s[:8], open); got != before {
		t.Errorf("results share memory with arguments: %s", got)
	}
	for _, n := range []int{3, 4, 6} {
		if s, _ := magic.Make(n); !kindsOf(s)[1] {
			t.Errorf("Make(%d) again: %v", n, s)
		}
	}
}
