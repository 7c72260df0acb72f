package dice_test

import (
	"slices"
	"testing"

	"bibelot/api"
	"bibelot/dice"
)

func TestCompare(t *testing.T) {
	for _, x := range []struct {
		a, b             []int
		more, less, same int
	}{
		{ring[0], ring[1], 5, 4, 0},
		{ring[1], ring[0], 4, 5, 0},
		{ring[1], ring[2], 5, 4, 0},
		{ring[2], ring[0], 5, 4, 0},
		{six, six, 15, 15, 6},
		{[]int{0}, []int{60}, 0, 1, 0},
		{[]int{60}, []int{0}, 1, 0, 0},
		{[]int{5, 5, 5}, []int{5, 5}, 0, 0, 6},
		{[]int{1, 2}, []int{2, 2, 3}, 0, 4, 2},
		{efron[0], efron[1], 24, 12, 0},
		{eight, eight, 28, 28, 8},
	} {
		more, less, same, e := dice.Compare(x.a, x.b)
		if more != x.more || less != x.less || same != x.same || e != api.OK {
			t.Errorf("Compare of %v, %v: %d, %d, %d, %d", x.a, x.b, more, less, same, e)
		}
	}
}

func TestBeats(t *testing.T) {
	for _, x := range []struct {
		dice [][]int
		want string
	}{
		{ring, "[[false true false] [false false true] [true false false]]"},
		{[][]int{six, six}, "[[false false] [false false]]"},
		{[][]int{{4}}, "[[false]]"},
		{[][]int{{1, 3}, {2}, {0, 4}}, "[[false false false] [false false false] [false false false]]"},
		{[][]int{{1, 1, 60}, {2}}, "[[false false] [true false]]"},   // more often, not by more
		{[][]int{{3, 3, 3, 4}, {3}}, "[[false true] [false false]]"}, // most results are draws
		{[][]int{{1}, {3}, {2}}, "[[false false false] [true false true] [true false false]]"},
	} {
		l, e := dice.Beats(x.dice)
		if e != api.OK {
			t.Errorf("Beats of %v: error %d", x.dice, e)
		}
		equal(t, "Beats", l, x.want)
	}
}

// P1.6: no die beats itself, and of two dice not both beat the other one.
func TestBeatsOneWay(t *testing.T) {
	for _, d := range some {
		table, e := dice.Beats(d)
		if e != api.OK || len(table) != len(d) {
			t.Fatalf("Beats of %v: %v, %d", d, table, e)
		}
		for i, row := range table {
			if len(row) != len(d) || row[i] {
				t.Errorf("Beats of %v: %v", d, table)
			}
			for k, beats := range row {
				more, less, same, _ := dice.Compare(d[i], d[k])
				if beats != (more > less) || beats && table[k][i] || more+less+same != len(d[i])*len(d[k]) {
					t.Errorf("Beats of %v: %v", d, table)
				}
			}
		}
	}
}

func isRing(table [][]bool, list []int) bool {
	for k, i := range list {
		if i < 0 || i >= len(table) || slices.Contains(list[:k], i) {
			return false
		}
		if !table[i][list[(k+1)%len(list)]] {
			return false
		}
	}
	return len(list) >= 3
}

func isRank(table [][]bool, list []int) bool {
	for k, i := range list {
		if i < 0 || i >= len(table) || slices.Contains(list[:k], i) {
			return false
		}
		for _, before := range list[:k] {
			if table[i][before] {
				return false
			}
		}
	}
	return len(list) == len(table)
}

// hasRing closes the table: a ring is there just if some die beats itself through others.
func hasRing(table [][]bool) bool {
	through := make([][]bool, len(table))
	for i := range table {
		through[i] = slices.Clone(table[i])
	}
	for m := range table {
		for i := range table {
			for k := range table {
				through[i][k] = through[i][k] || through[i][m] && through[m][k]
			}
		}
	}
	for i := range table {
		if through[i][i] {
			return true
		}
	}
	return false
}

// P1.6: there is a ring just if there is no rank list.
func checkRingOrRank(t *testing.T, d [][]int) bool {
	table, _ := dice.Beats(d)
	list, is, e := dice.Ring(d)
	rank, can, f := dice.Rank(d)
	if e != api.OK || f != api.OK || is == can || is != hasRing(table) {
		t.Errorf("%v: Ring %v, %t, %d; Rank %v, %t, %d", d, list, is, e, rank, can, f)
	}
	if is && (!isRing(table, list) || len(rank) != 0) {
		t.Errorf("%v: Ring %v, Rank %v", d, list, rank)
	}
	if can && (!isRank(table, rank) || len(list) != 0) {
		t.Errorf("%v: Ring %v, Rank %v", d, list, rank)
	}
	return is
}

func TestRingOrRank(t *testing.T) {
	for _, d := range some {
		checkRingOrRank(t, d)
	}
	for _, x := range []struct {
		dice [][]int
		want bool
	}{
		{ring, true}, {efron, true}, {[][]int{six}, false}, {[][]int{six, six, six}, false},
		{[][]int{{1}, {2}, {3}, {4}}, false}, {[][]int{{4}, {2}, {3}, {1}}, false},
		{[][]int{{60}, ring[0], {0}, ring[1], {60}, ring[2]}, true}, // dice outside of the ring
		{[][]int{efron[3], {7}, efron[2], efron[1], {0}, efron[0]}, true},
	} {
		if is := checkRingOrRank(t, x.dice); is != x.want {
			t.Errorf("Ring of %v: %t", x.dice, is)
		}
	}
}

// Dice of three sides whose numbers follow a short rule: with rings and without.
func TestRingOrRankOfMany(t *testing.T) {
	rings, seed := 0, 1
	next := func() int {
		seed = (seed*1103515245 + 12345) % (1 << 31)
		return seed >> 16 % 10
	}
	const rows = 600
	for range rows {
		var d [][]int
		for range 3 + next()%4 {
			die := []int{next(), next(), next()}
			slices.Sort(die)
			d = append(d, die)
		}
		if checkRingOrRank(t, d) {
			rings++
		}
	}
	if rings < 10 || rings > rows-10 {
		t.Errorf("%d of %d have a ring: too few of one kind to test anything", rings, rows)
	}
}
