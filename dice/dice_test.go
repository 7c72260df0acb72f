package dice_test

import (
	"fmt"
	"math"
	"slices"
	"testing"

	"bibelot/api"
	"bibelot/dice"
)

var (
	six       = []int{1, 2, 3, 4, 5, 6}
	sicherman = [][]int{{1, 2, 2, 3, 3, 4}, {1, 3, 4, 5, 6, 8}}
	ring      = [][]int{{2, 4, 9}, {1, 6, 8}, {3, 5, 7}}
	efron     = [][]int{{0, 0, 4, 4, 4, 4}, {3, 3, 3, 3, 3, 3}, {2, 2, 2, 2, 6, 6}, {1, 1, 1, 5, 5, 5}}
	eight     = []int{0, 1, 2, 3, 4, 5, 6, 60}
	nine      = []int{1, 2, 3, 4, 5, 6, 7, 8, 9}
)

// some are valid dice of many kinds, for what holds of all dice.
var some = [][][]int{
	{{0}}, {{60}}, {{0, 60}}, {{5, 5, 5}}, {six}, {six, six}, sicherman, ring, efron,
	{{0}, {0}, {0}, {0}, {0}, {0}},
	{{1}, {2}, {3}, {4}, {5}, {6}},
	{{6}, {5}, {4}, {3}, {2}, {1}},
	{six, ring[2], ring[0], ring[1]},
	{ring[2], ring[1], ring[0]},
	{{60, 60}, ring[0], {0}, ring[1], ring[2], {0, 0, 60}},
	{{0}, {10, 12, 14}, {11, 11, 16}, {9, 13, 15}, {60}},
	{eight, eight, eight},
}

// invalid are lists that are not some dice, with the error of each.
var invalid = []struct {
	dice [][]int
	want api.Errno
}{
	{nil, api.ErrDie},
	{[][]int{}, api.ErrDie},
	{[][]int{nil}, api.ErrDie},
	{[][]int{{}}, api.ErrDie},
	{[][]int{six, {}}, api.ErrDie},
	{[][]int{{}, six}, api.ErrDie},
	{[][]int{{2, 1}}, api.ErrDie},
	{[][]int{{1, 2, 3, 2}}, api.ErrDie},
	{[][]int{{-1}}, api.ErrDie},
	{[][]int{{-1, 5}}, api.ErrDie},
	{[][]int{{61}}, api.ErrDie},
	{[][]int{{0, 61}}, api.ErrDie},
	{[][]int{{math.MinInt}}, api.ErrDie},
	{[][]int{{math.MaxInt}}, api.ErrDie},
	{[][]int{six, {0, math.MaxInt}, six}, api.ErrDie},
	{[][]int{six, six, six, six, six, {3, 2}}, api.ErrDie},
	{[][]int{nine}, api.ErrLong},
	{[][]int{six, nine}, api.ErrLong},
	{[][]int{six, six, six, six, six, six, six}, api.ErrLong},
	{[][]int{six, six, six, six, six, six, {}}, api.ErrLong},
	{[][]int{{2, 1}, nine}, api.ErrLong},
	{[][]int{{}, {}, {}, {}, {}, {}, {}}, api.ErrLong},
	{[][]int{{-1, -1, -1, -1, -1, -1, -1, -1, -1}}, api.ErrLong},
	{make([][]int, 100000), api.ErrLong},
	{[][]int{make([]int, 100000)}, api.ErrLong},
}

func equal(t *testing.T, what string, got, want any) {
	t.Helper()
	if g, w := fmt.Sprint(got), fmt.Sprint(want); g != w {
		t.Errorf("%s: %s, want %s", what, g, w)
	}
}

// all lists the results of the dice, in a way of its own.
func all(dice [][]int) [][]int {
	lists := [][]int{{}}
	for _, die := range dice {
		var longer [][]int
		for _, list := range lists {
			for _, side := range die {
				longer = append(longer, append(slices.Clone(list), side))
			}
		}
		lists = longer
	}
	return lists
}

func add(list []int) int {
	sum := 0
	for _, x := range list {
		sum += x
	}
	return sum
}

func TestCheck(t *testing.T) {
	for _, x := range invalid {
		if e := dice.Check(x.dice); e != x.want {
			t.Errorf("Check of %.80s: %d, want %d", fmt.Sprint(x.dice), e, x.want)
		}
	}
	valid := append(slices.Clone(some), [][]int{eight, eight, eight, eight, eight, eight}, [][]int{{0, 0, 0, 0, 0, 0, 0, 60}})
	for _, d := range valid {
		if e := dice.Check(d); e != api.OK {
			t.Errorf("Check of %v: %d", d, e)
		}
	}
}

// callAll calls what takes some dice, and gives the errors and whether all other results are zero.
func callAll(d [][]int) map[string]struct {
	e    api.Errno
	zero bool
} {
	type answer = struct {
		e    api.Errno
		zero bool
	}
	answers := map[string]answer{}
	n, e := dice.Results(d)
	answers["Results"] = answer{e, n == 0}
	sums, e := dice.Sums(d)
	answers["Sums"] = answer{e, len(sums) == 0}
	n, e = dice.Ways(d, 0)
	answers["Ways"] = answer{e, n == 0}
	is, e := dice.Same(d, [][]int{six})
	answers["Same, first"] = answer{e, !is}
	is, e = dice.Same([][]int{six}, d)
	answers["Same, second"] = answer{e, !is}
	is, e = dice.Same(d, d)
	answers["Same, both"] = answer{e, !is}
	table, e := dice.Beats(d)
	answers["Beats"] = answer{e, len(table) == 0}
	list, is, e := dice.Ring(d)
	answers["Ring"] = answer{e, len(list) == 0 && !is}
	list, is, e = dice.Rank(d)
	answers["Rank"] = answer{e, len(list) == 0 && !is}
	orders, e := dice.Orders(d)
	answers["Orders"] = answer{e, len(orders) == 0}
	is, e = dice.Fair(d)
	answers["Fair"] = answer{e, !is}
	return answers
}

func TestInvalidDice(t *testing.T) {
	for _, x := range invalid {
		for name, a := range callAll(x.dice) {
			if a.e != x.want || !a.zero {
				t.Errorf("%s of %.80s: error %d, want %d; others zero: %t", name, fmt.Sprint(x.dice), a.e, x.want, a.zero)
			}
		}
	}
}

func TestInvalidPairs(t *testing.T) {
	for _, x := range []struct {
		a, b []int
		want api.Errno
	}{
		{nil, six, api.ErrDie},
		{six, nil, api.ErrDie},
		{nil, nil, api.ErrDie},
		{six, []int{2, 1}, api.ErrDie},
		{[]int{-1}, six, api.ErrDie},
		{six, []int{61}, api.ErrDie},
		{[]int{math.MinInt}, []int{math.MaxInt}, api.ErrDie},
		{nine, six, api.ErrLong},
		{six, nine, api.ErrLong},
		{nil, nine, api.ErrLong}, // as one list of some dice: ErrLong of the second one comes first
		{nine, nil, api.ErrLong},
		{[]int{2, 1}, nine, api.ErrLong},
	} {
		more, less, same, e := dice.Compare(x.a, x.b)
		if e != x.want || more != 0 || less != 0 || same != 0 {
			t.Errorf("Compare of %v, %v: %d, %d, %d, %d", x.a, x.b, more, less, same, e)
		}
		if l, e := dice.Twins(x.a, x.b); e != x.want || len(l) != 0 {
			t.Errorf("Twins of %v, %v: %v, %d", x.a, x.b, l, e)
		}
	}
}

// Same examines one list after the other: an error of the first one decides.
func TestSameInvalid(t *testing.T) {
	for _, x := range []struct {
		a, b [][]int
		want api.Errno
	}{
		{nil, [][]int{nine}, api.ErrDie},
		{[][]int{nine}, nil, api.ErrLong},
		{[][]int{{2, 1}}, [][]int{six, six, six, six, six, six, six}, api.ErrDie},
		{[][]int{six, six, six, six}, [][]int{six, six, six, six}, api.OK}, // more than 6 in both together
	} {
		if is, e := dice.Same(x.a, x.b); e != x.want || is != (e == api.OK) {
			t.Errorf("Same of %v, %v: %t, %d, want %d", x.a, x.b, is, e, x.want)
		}
	}
}

// What lies beyond the length of an argument, and the argument itself, stay as they are, and no results share memory.
func TestMemory(t *testing.T) {
	long := []int{1, 2, 3, 4, 5, 6, 99, 98}
	die := long[:6]
	d := [][]int{die, {1, 4}, {2, 3}, {7}, nil, nil}[:4]
	calls := map[string]func() any{
		"Sums":   func() any { l, _ := dice.Sums(d); return l },
		"Beats":  func() any { l, _ := dice.Beats(d); return l },
		"Ring":   func() any { l, _, _ := dice.Ring(ring); return l },
		"Rank":   func() any { l, _, _ := dice.Rank(d); return l },
		"Twins":  func() any { l, _ := dice.Twins(die, die); return l },
		"Even":   func() any { l, _ := dice.Even(4, 6); return l },
		"Orders": func() any { l, _ := dice.Orders(ring); return l },
	}
	for name, call := range calls {
		first := call()
		want := fmt.Sprint(first)
		spoil(first)
		equal(t, name+" after its result was changed", call(), want)
	}
	dice.Check(d)
	dice.Results(d)
	dice.Ways(d, 7)
	dice.Same(d, d)
	dice.Compare(die, d[1])
	dice.Fair(d)
	equal(t, "arguments", fmt.Sprint(long, d[:6], ring), "[1 2 3 4 5 6 99 98] [[1 2 3 4 5 6] [1 4] [2 3] [7] [] []] [[2 4 9] [1 6 8] [3 5 7]]")

}

// No two lists of one result share memory, not even beyond their lengths.
func TestMemoryOfParts(t *testing.T) {
	parts := map[string][][]int{}
	twins, _ := dice.Twins(six, six)
	for _, x := range twins {
		parts["Twins"] = append(parts["Twins"], x[0], x[1])
	}
	even, _ := dice.Even(8, 8)
	for _, x := range even {
		parts["Even"] = append(parts["Even"], x[0], x[1])
	}
	for name, lists := range parts {
		for i := range lists {
			var others [][]int
			for k := range lists {
				if k != i {
					others = append(others, lists[k])
				}
			}
			want := fmt.Sprint(others)
			spoil(lists[i])
			equal(t, name+": the other lists", others, want)
		}
	}
	table, _ := dice.Beats(ring)
	table[0][0] = true
	_ = append(table[0], true, true, true)
	equal(t, "Beats: the other rows", table[1:], "[[false false true] [true false false]]")
}

// spoil writes over all that a result holds, also beyond its length.
func spoil(result any) {
	switch l := result.(type) {
	case []int:
		for i := range l[:cap(l)] {
			l[:cap(l)][i] = -7
		}
	case []int64:
		for i := range l[:cap(l)] {
			l[:cap(l)][i] = -7
		}
	case [][2]int64:
		for i := range l {
			l[i] = [2]int64{-7, -7}
		}
	case [][]bool:
		for _, row := range l {
			for i := range row {
				row[i] = !row[i]
			}
		}
	case [][2][]int:
		for i := range l {
			spoil(l[i][0])
			spoil(l[i][1])
		}
	}
}

// P1: no call panics, whatever the arguments are.
func TestNoPanic(t *testing.T) {
	lists := [][]int{nil, {}, {0}, {-1}, {math.MinInt, math.MaxInt}, {math.MaxInt, math.MinInt}, six, nine, {60, 60, 60, 60, 60, 60, 60, 60}}
	for _, a := range lists {
		for _, b := range lists {
			d := [][]int{a, b}
			callAll(d)
			dice.Compare(a, b)
			dice.Twins(a, b)
			for _, n := range []int{math.MinInt, -1, 0, math.MaxInt} {
				dice.Ways(d, n)
				dice.Even(n, len(a))
				dice.Chains(len(b), n)
			}
		}
	}
}
