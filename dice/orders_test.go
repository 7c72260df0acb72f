package dice_test

import (
	"fmt"
	"slices"
	"testing"

	"bibelot/api"
	"bibelot/dice"
)

func TestOrders(t *testing.T) {
	for _, x := range []struct {
		dice [][]int
		want string
	}{
		{[][]int{{0}, {1}}, "[1 0]"},
		{[][]int{{1}, {0}}, "[0 1]"},
		{[][]int{{1, 4}, {2, 3}}, "[2 2]"},
		{[][]int{{5, 5, 5}}, "[3]"},
		{[][]int{{1, 1}, {2, 2, 2}}, "[6 0]"},
		// 0 1 2, 0 2 1, 1 0 2, 1 2 0, 2 0 1, 2 1 0: the places of the dice in an order, not the ranks of the dice.
		{[][]int{{2}, {3}, {1}}, "[0 0 0 0 1 0]"},
		{[][]int{{3}, {1}, {2}}, "[0 0 0 1 0 0]"},
		{[][]int{{0}, {20}, {40}, {60}}, "[1 0 0 0 0 0 0 0 0 0 0 0 0 0 0 0 0 0 0 0 0 0 0 0]"},
		{[][]int{{60}, {40}, {20}, {0}}, "[0 0 0 0 0 0 0 0 0 0 0 0 0 0 0 0 0 0 0 0 0 0 0 1]"},
	} {
		l, e := dice.Orders(x.dice)
		if e != api.OK {
			t.Errorf("Orders of %v: error %d", x.dice, e)
		}
		equal(t, fmt.Sprintf("Orders of %v", x.dice), l, x.want)
	}
}

// ordered counts the orders of results by sorting the indices.
func ordered(d [][]int) map[string]int64 {
	numbers := map[string]int64{}
	for _, result := range all(d) {
		var order []int
		for i := range d {
			order = append(order, i)
		}
		slices.SortFunc(order, func(i, k int) int { return result[i] - result[k] })
		numbers[fmt.Sprint(order)]++
	}
	return numbers
}

func TestOrdersCounted(t *testing.T) {
	lists := []string{
		"[0 1 2 3]", "[0 1 3 2]", "[0 2 1 3]", "[0 2 3 1]", "[0 3 1 2]", "[0 3 2 1]",
		"[1 0 2 3]", "[1 0 3 2]", "[1 2 0 3]", "[1 2 3 0]", "[1 3 0 2]", "[1 3 2 0]",
		"[2 0 1 3]", "[2 0 3 1]", "[2 1 0 3]", "[2 1 3 0]", "[2 3 0 1]", "[2 3 1 0]",
		"[3 0 1 2]", "[3 0 2 1]", "[3 1 0 2]", "[3 1 2 0]", "[3 2 0 1]", "[3 2 1 0]",
	}
	for _, d := range [][][]int{
		{{1, 9, 9}, {2, 8, 10}, {3, 7, 11}, {4, 6, 12}},
		{{0, 4, 8, 12, 16, 20, 24, 28}, {1, 5, 9, 13, 17, 21, 25, 29}, {2, 6, 10, 14, 18, 22, 26, 30}, {3, 7, 11, 15, 19, 23, 27, 31}},
		{{5}, {1, 60}, {0, 30, 31}, {2, 2, 40}},
	} {
		numbers := ordered(d)
		l, e := dice.Orders(d)
		if e != api.OK || len(l) != len(lists) {
			t.Fatalf("Orders of %v: %v, %d", d, l, e)
		}
		for i, order := range lists {
			if l[i] != numbers[order] {
				t.Errorf("Orders of %v: %d for %s, want %d", d, l[i], order, numbers[order])
			}
		}
	}
	l, e := dice.Orders(ring)
	numbers := ordered(ring)
	var want []int64
	for _, order := range []string{"[0 1 2]", "[0 2 1]", "[1 0 2]", "[1 2 0]", "[2 0 1]", "[2 1 0]"} {
		want = append(want, numbers[order])
	}
	if e != api.OK || !slices.Equal(l, want) {
		t.Errorf("Orders of %v: %v, %d, want %v", ring, l, e, want)
	}
}

func TestFair(t *testing.T) {
	for _, x := range []struct {
		dice [][]int
		want bool
	}{
		{[][]int{{1, 4}, {2, 3}}, true},
		{[][]int{{0}, {1}}, false},
		{[][]int{{7}}, true},
		{[][]int{{5, 5, 5}}, true},
		{[][]int{{0, 5, 7, 8}, {1, 3, 6, 9}, {2, 4}}, false}, // not all of them equal
		{ring, false},
		{[][]int{{3, 10}, {2, 4, 9, 11}, {1, 5, 6, 7, 8, 12}}, true},
		{[][]int{{1, 5, 6, 7, 8, 12}, {3, 10}, {2, 4, 9, 11}}, true},
		{[][]int{{1, 6, 8, 11, 15, 16}, {2, 5, 9, 10, 14, 17}, {3, 4, 7, 12, 13, 18}}, false}, // each two of them are fair, all three are not
	} {
		if is, e := dice.Fair(x.dice); is != x.want || e != api.OK {
			t.Errorf("Fair of %v: %t, %d", x.dice, is, e)
		}
	}
}

func TestOrdersErrors(t *testing.T) {
	for _, x := range []struct {
		dice [][]int
		want api.Errno
	}{
		{[][]int{{1, 2}, {2, 3}}, api.ErrDie},
		{[][]int{{1}, {1}}, api.ErrDie},
		{[][]int{{0}, {1}, {2}, {0, 60}}, api.ErrDie},
		{[][]int{{5}, {1, 60}, {2}, {3, 60}}, api.ErrDie},
		{[][]int{{1, 4}, {2}, {0, 3, 4}}, api.ErrDie},
		{[][]int{{1}, {2}, {3}, {4}, {5}}, api.ErrLong},
		{[][]int{{1}, {1}, {1}, {1}, {1}}, api.ErrLong}, // ErrLong comes before common sides
		{[][]int{{1}, {2}, {3}, {4}, {5}, {6}}, api.ErrLong},
		{[][]int{{1}, {2}, {3}, {4}, {2, 1}}, api.ErrDie}, // what Check returns comes first
		{[][]int{{1}, {2}, {3}, {4}, nine}, api.ErrLong},
		{[][]int{{1, 1}, {2, 2}, {3, 3}, {4, 4}}, api.OK}, // a side that a die has twice is not common
	} {
		l, e := dice.Orders(x.dice)
		if e != x.want || (len(l) != 0) != (e == api.OK) {
			t.Errorf("Orders of %v: %v, %d, want %d", x.dice, l, e, x.want)
		}
		if is, e := dice.Fair(x.dice); e != x.want || is {
			t.Errorf("Fair of %v: %t, %d, want %d", x.dice, is, e, x.want)
		}
	}
}
