package pancake_test

import (
	"fmt"
	"math"
	"slices"
	"testing"

	"bibelot/api"
	"bibelot/pancake"
)

// kind is one of lists: the numbers that they may have at most, whether these may have any sign, and the calls that take one, by what is said of them.
type kind struct {
	name   string
	most   int
	signed bool
	check  func([]int) api.Errno
	calls  func([]int) map[string][]any
}

func kinds() []kind {
	return []kind{{"stack", 7, false, pancake.Check, stackCalls}, {"burnt stack", 6, true, pancake.CheckBurnt, burntCalls}, {"row", 40, true, pancake.CheckRow, rowCalls}}
}

// numbers makes a source of numbers below a bound, always the same ones for a seed.
func numbers(seed uint64) func(below int) int {
	return func(below int) int {
		seed = seed*6364136223846793005 + 1442695040888963407
		return int(seed >> 33 % uint64(below))
	}
}

// first is 1, 2, .., n.
func first(n int) []int {
	var list []int
	for x := 1; x <= n; x++ {
		list = append(list, x)
	}
	return list
}

// lists are all stacks of n numbers, or all with any signs.
func lists(n int, signed bool) [][]int {
	if n == 0 {
		return [][]int{nil}
	}
	var all [][]int
	for _, shorter := range lists(n-1, signed) {
		for at := range n {
			all = append(all, slices.Insert(slices.Clone(shorter), at, n))
			if signed {
				all = append(all, slices.Insert(slices.Clone(shorter), at, -n))
			}
		}
	}
	return all
}

// some is a stack of n numbers, or one with any signs.
func some(n int, signed bool, pick func(int) int) []int {
	var list []int
	for x := 1; x <= n; x++ {
		sign := 1
		if signed && pick(2) == 0 {
			sign = -1
		}
		list = slices.Insert(list, pick(x), sign*x)
	}
	return list
}

// turned follows the definition of a turn: what was at place i comes to place k.
func turned(s []int, i, k int, signed bool) []int {
	list := slices.Clone(s)
	for place := i; place <= k; place++ {
		list[place] = s[i+k-place]
		if signed {
			list[place] = -list[place]
		}
	}
	return list
}

// is follows the definition of the kind.
func (k kind) is(list []int) bool {
	var sorted []int
	for _, x := range list {
		if k.signed && x < 0 {
			x = -x
		}
		sorted = append(sorted, x)
	}
	slices.Sort(sorted)
	return len(list) >= 1 && len(list) <= k.most && slices.Equal(sorted, first(len(list)))
}

func (k kind) wantCheck(t *testing.T, list []int) {
	t.Helper()
	want := api.ErrStack
	if k.is(list) {
		want = api.OK
	}
	if e := k.check(list); e != want {
		t.Errorf("%v as a %s: %d, want %d", list, k.name, e, want)
	}
}

// broken are lists that come of one by a change of one number, or by one number more or less.
func broken(list []int) [][]int {
	all := [][]int{nil, {}, list[1:], append(slices.Clone(list), len(list)+2), append(slices.Clone(list), list[0]), append(slices.Clone(list), 0)}
	for place, x := range list {
		for _, other := range []int{0, -x, x + 1, x - 1, len(list) + 1, -len(list) - 1, x + 256, x + 1<<32, math.MaxInt, math.MinInt} {
			changed := slices.Clone(list)
			changed[place] = other
			all = append(all, changed)
		}
	}
	return all
}

// none are lists that are none of the kind.
func (k kind) none() [][]int {
	var all [][]int
	for _, list := range append(broken([]int{1}), broken([]int{3, 1, 2})...) {
		if !k.is(list) {
			all = append(all, list)
		}
	}
	return append(all, first(k.most+1), first(100))
}

// refused tells whether a call returned that error and nothing else: the results, the error last.
func refused(want api.Errno, results ...any) bool {
	last := len(results) - 1
	for _, x := range results[:last] {
		if s := fmt.Sprint(x); s != "0" && s != "false" && s != "[]" {
			return false
		}
	}
	return results[last] == want
}

// all puts the results of a call into one list.
func all(results ...any) []any {
	return results
}

func wantRefused(t *testing.T, want api.Errno, name string, results []any) {
	t.Helper()
	if !refused(want, results...) {
		t.Errorf("%s: %v, want %d", name, results, want)
	}
}

func TestCheck(t *testing.T) {
	for _, k := range kinds() {
		for n := range 6 {
			for _, list := range lists(n, true) {
				k.wantCheck(t, list)
			}
		}
		for n := 1; n <= 42; n++ {
			for seed := range uint64(20) {
				k.wantCheck(t, some(n, false, numbers(seed)))
				k.wantCheck(t, some(n, true, numbers(seed)))
			}
			for _, list := range broken(some(n, k.signed, numbers(uint64(n)))) {
				k.wantCheck(t, list)
			}
		}
		for number := range 7 * 7 * 7 {
			k.wantCheck(t, []int{number%7 - 3, number/7%7 - 3, number/49 - 3})
		}
		for _, list := range k.none() {
			if e := k.check(list); e != api.ErrStack {
				t.Errorf("%v as a %s: %d", list, k.name, e)
			}
		}
	}
	for _, x := range []struct {
		list []int
		want [3]bool
	}{
		{[]int{1}, [3]bool{true, true, true}},
		{[]int{-1}, [3]bool{false, true, true}},
		{[]int{2, 1, 3, 6, 5, 4}, [3]bool{true, true, true}},
		{[]int{2, 1, 3, 6, 7, 5, 4}, [3]bool{true, false, true}},
		{[]int{-2, 1, 3, 6, 7, 5, 4}, [3]bool{false, false, true}},
		{[]int{2, 1, 3, 6, 7, 5, 4, 8}, [3]bool{false, false, true}},
		{[]int{1, -1}, [3]bool{false, false, false}},
		{first(40), [3]bool{false, false, true}},
		{first(41), [3]bool{false, false, false}},
	} {
		for i, k := range kinds() {
			if e := k.check(x.list); e == api.OK != x.want[i] {
				t.Errorf("%v as a %s: %d", x.list, k.name, e)
			}
		}
	}
}

// What is no list comes before all else that is wrong.
func TestNoList(t *testing.T) {
	for _, k := range kinds() {
		for _, s := range k.none() {
			for name, results := range k.calls(s) {
				wantRefused(t, api.ErrStack, fmt.Sprint(name, " of ", s), results)
			}
		}
	}
}

func stackCalls(s []int) map[string][]any {
	return map[string][]any{
		"Flip": all(pancake.Flip(s, 1)), "Flip, no flip,": all(pancake.Flip(s, -1)), "Gaps": all(pancake.Gaps(s)), "Order": all(pancake.Order(s)),
		"Flips from 1": all(pancake.Flips([]int{1}, s)), "Flips to 1": all(pancake.Flips(s, []int{1})), "Flips from more": all(pancake.Flips(first(7), s)), "Flips to more": all(pancake.Flips(s, first(7))),
		"Flips to itself": all(pancake.Flips(s, s)), "Flips to nothing": all(pancake.Flips(s, nil)), "Flips from nothing": all(pancake.Flips(nil, s)),
	}
}

func burntCalls(s []int) map[string][]any {
	return map[string][]any{
		"FlipBurnt": all(pancake.FlipBurnt(s, 1)), "FlipBurnt, no flip,": all(pancake.FlipBurnt(s, 0)), "OrderBurnt": all(pancake.OrderBurnt(s)),
		"FlipsBurnt from -1": all(pancake.FlipsBurnt([]int{-1}, s)), "FlipsBurnt to -1": all(pancake.FlipsBurnt(s, []int{-1})), "FlipsBurnt from more": all(pancake.FlipsBurnt(first(6), s)), "FlipsBurnt to more": all(pancake.FlipsBurnt(s, first(6))),
		"FlipsBurnt to itself": all(pancake.FlipsBurnt(s, s)), "FlipsBurnt to nothing": all(pancake.FlipsBurnt(s, nil)), "FlipsBurnt from nothing": all(pancake.FlipsBurnt(nil, s)),
	}
}

func rowCalls(s []int) map[string][]any {
	return map[string][]any{
		"Turn": all(pancake.Turn(s, 0, 0)), "Turn, no turn,": all(pancake.Turn(s, -1, 0)), "Distance": all(pancake.Distance(s)), "OrderTurns": all(pancake.OrderTurns(s)),
		"Picture": all(pancake.Picture(s)), "Circles": all(pancake.Circles(s)), "Components": all(pancake.Components(s)),
	}
}

func TestShapes(t *testing.T) {
	for n := 1; n <= 7; n++ {
		for m := 1; m <= 7; m++ {
			if n == m {
				continue
			}
			wantRefused(t, api.ErrShape, fmt.Sprint("Flips of ", n, m), all(pancake.Flips(first(n), first(m))))
			if n < 7 && m < 7 {
				wantRefused(t, api.ErrShape, fmt.Sprint("FlipsBurnt of ", n, m), all(pancake.FlipsBurnt(first(n), first(m))))
			}
		}
	}
}

// ends are numbers of places and some that are none.
func ends(n int) []int {
	list := []int{math.MinInt, math.MinInt + 1, -256, math.MaxInt, math.MaxInt - 1, 1 << 32, 1<<32 + 1}
	for x := -3; x <= n+3; x++ {
		list = append(list, x)
	}
	return list
}

func TestFlip(t *testing.T) {
	for n := 1; n <= 7; n++ {
		pick := numbers(uint64(n))
		for range 30 {
			s, b := some(n, false, pick), some(n, true, pick)
			for _, k := range ends(n) {
				wantTurned(t, fmt.Sprint("Flip of ", s, k), k >= 1 && k <= n, s, 0, k-1, false, all(pancake.Flip(s, k)))
				if n < 7 {
					wantTurned(t, fmt.Sprint("FlipBurnt of ", b, k), k >= 1 && k <= n, b, 0, k-1, true, all(pancake.FlipBurnt(b, k)))
				}
			}
		}
	}
	for _, x := range []struct {
		results []any
		want    string
	}{
		{all(pancake.Flip([]int{3, 1, 2}, 1)), "[[3 1 2] 0]"},
		{all(pancake.Flip([]int{3, 1, 2}, 2)), "[[1 3 2] 0]"},
		{all(pancake.Flip([]int{3, 1, 2}, 3)), "[[2 1 3] 0]"},
		{all(pancake.Flip([]int{1}, 1)), "[[1] 0]"},
		{all(pancake.FlipBurnt([]int{3, -1, 2}, 1)), "[[-3 -1 2] 0]"},
		{all(pancake.FlipBurnt([]int{3, -1, 2}, 2)), "[[1 -3 2] 0]"},
		{all(pancake.FlipBurnt([]int{3, -1, 2}, 3)), "[[-2 1 -3] 0]"},
		{all(pancake.Turn([]int{3, -1, 2}, 1, 1)), "[[3 1 2] 0]"},
		{all(pancake.Turn([]int{3, -1, 2}, 1, 2)), "[[3 -2 1] 0]"},
	} {
		if got := fmt.Sprint(x.results); got != x.want {
			t.Errorf("%s, want %s", got, x.want)
		}
	}
}

// wantTurned wants the list turned from place i to place k, or ErrArg if that is no turn.
func wantTurned(t *testing.T, name string, is bool, s []int, i, k int, signed bool, results []any) {
	t.Helper()
	if !is {
		wantRefused(t, api.ErrArg, name, results)
		return
	}
	if want := fmt.Sprint([]any{turned(s, i, k, signed), api.OK}); fmt.Sprint(results) != want {
		t.Errorf("%s: %v, want %s", name, results, want)
	}
}

func TestTurn(t *testing.T) {
	for _, n := range []int{1, 2, 3, 7, 39, 40} {
		s := some(n, true, numbers(uint64(n)))
		for _, i := range ends(n) {
			for _, k := range ends(n) {
				wantTurned(t, fmt.Sprint("Turn of ", s, i, k), 0 <= i && i <= k && k < n, s, i, k, true, all(pancake.Turn(s, i, k)))
			}
		}
	}
}

// gaps follows the definition.
func gaps(s []int) int {
	count := 0
	for i, x := range s {
		below := len(s) + 1
		if i+1 < len(s) {
			below = s[i+1]
		}
		if d := x - below; d < -1 || d > 1 {
			count++
		}
	}
	return count
}

func TestGaps(t *testing.T) {
	for n := 1; n <= 7; n++ {
		for _, s := range lists(n, false) {
			if got, e := pancake.Gaps(s); got != gaps(s) || e != api.OK {
				t.Errorf("Gaps of %v: %d, %d", s, got, e)
			}
		}
	}
	for _, x := range []struct {
		s    []int
		want int
	}{{[]int{1}, 0}, {[]int{2, 1}, 1}, {[]int{1, 3, 2}, 2}, {[]int{3, 1, 2}, 2}, {[]int{3, 2, 1}, 1}, {[]int{2, 4, 1, 3}, 4}, {first(7), 0}, {[]int{7, 6, 5, 4, 3, 2, 1}, 1}, {[]int{1, 2, 3, 4, 5, 7, 6}, 2}} {
		if got, e := pancake.Gaps(x.s); got != x.want || e != api.OK {
			t.Errorf("Gaps of %v: %d, %d", x.s, got, e)
		}
	}
}

// Arguments are not changed, and what is done to a result shows in no argument and in no other result.
func TestMemory(t *testing.T) {
	s, b := []int{3, 1, 5, 2, 4}, []int{-3, 1, 5, -2, 4}
	calls := func() string {
		one, _ := pancake.Flip(s, 1)
		two, _ := pancake.FlipBurnt(b, 3)
		three, _ := pancake.Turn(b, 1, 4)
		order, _ := pancake.Order(s)
		burnt, _ := pancake.OrderBurnt(b)
		turns, _ := pancake.OrderTurns(b)
		picture, _ := pancake.Picture(b)
		circles, _ := pancake.Circles(b)
		flips, _ := pancake.Flips(s, []int{1, 2, 3, 5, 4})
		out := fmt.Sprint(one, two, three, order, burnt, turns, picture, circles, flips)
		for _, list := range append([][]int{one, two, three, order, burnt, picture}, circles...) {
			for i := range list[:cap(list)] {
				list[:cap(list)][i] = -9
			}
		}
		clear(turns)
		return out
	}
	before := calls()
	if after := calls(); after != before {
		t.Errorf("%s, then %s", before, after)
	}
	if got := fmt.Sprint(s, b); got != "[3 1 5 2 4] [-3 1 5 -2 4]" {
		t.Errorf("the arguments are %s", got)
	}
	circles, _ := pancake.Circles([]int{-2, -1, 3, -4})
	want := fmt.Sprint(circles[1:])
	_ = append(circles[0], -9)
	if got := fmt.Sprint(circles[1:]); got != want {
		t.Errorf("circles: %s, then %s", want, got)
	}
}

// What lies beyond the length of an argument is neither read nor written.
func TestBeyondLength(t *testing.T) {
	long := []int{2, 3, 1, 9, 9}
	s := long[:3]
	for range 2 {
		pancake.Flip(s, 3)
		pancake.Turn(s, 0, 2)
		pancake.Order(s)
		pancake.Picture(s)
		pancake.Components(s)
	}
	if list, e := pancake.Flip(s, 2); fmt.Sprint(list, e, long) != "[3 2 1] 0 [2 3 1 9 9]" {
		t.Errorf("%v, %d, %v", list, e, long)
	}
}
