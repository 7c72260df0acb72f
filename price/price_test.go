package price_test

import (
	"fmt"
	"math"
	"slices"
	"testing"

	"bibelot/api"
	"bibelot/price"
)

type seen = price.Seen

// numbers makes a source of numbers below a bound, always the same ones for a seed.
func numbers(seed uint64) func(below int) int {
	return func(below int) int {
		seed = seed*6364136223846793005 + 1442695040888963407
		return int(seed >> 33 % uint64(below))
	}
}

// two is an observation of two goods.
func two(p, q, a, b int) seen {
	return seen{[]int{p, q}, []int{a, b}}
}

// three is an observation of three goods.
func three(p, q, r, a, b, c int) seen {
	return seen{[]int{p, q, r}, []int{a, b, c}}
}

// small are all observations of two goods with prices 1 and 2 and amounts from 0 to 2.
func small() []seen {
	var all []seen
	for p := 1; p <= 2; p++ {
		for q := 1; q <= 2; q++ {
			for a := range 3 {
				for b := range 3 {
					if a+b > 0 {
						all = append(all, two(p, q, a, b))
					}
				}
			}
		}
	}
	return all
}

// tiny are all lists of one or two small observations, and a part of those of three.
func tiny() [][]seen {
	var lists [][]seen
	all := small()
	for i, a := range all {
		lists = append(lists, []seen{a})
		for k, b := range all {
			lists = append(lists, []seen{a, b})
			for j, c := range all {
				if (i+3*k+7*j)%23 == 0 {
					lists = append(lists, []seen{a, b, c})
				}
			}
		}
	}
	return lists
}

// some is so many observations of so many goods, of which the bundles cost about the same where money is not 0.
func some(n, goods, most, money int, pick func(int) int) []seen {
	var l []seen
	for range n {
		s := seen{make([]int, goods), make([]int, goods)}
		for k := range goods {
			s.Prices[k] = 1 + pick(most)
			s.Bundle[k] = pick(most + 1)
		}
		if money > 0 {
			spend(s, money, pick)
		}
		if slices.Max(s.Bundle) == 0 {
			s.Bundle[pick(goods)] = 1
		}
		l = append(l, s)
	}
	return l
}

// spend takes a bundle that costs at most that much.
func spend(s seen, money int, pick func(int) int) {
	clear(s.Bundle)
	first := pick(len(s.Prices))
	for k := range s.Prices {
		good := (first + k) % len(s.Prices)
		most := min(20, money/s.Prices[good])
		s.Bundle[good] = most
		if k+1 < len(s.Prices) {
			s.Bundle[good] = pick(most + 1)
		}
		money -= s.Bundle[good] * s.Prices[good]
	}
}

// mixed are some lists of each number of observations and of goods.
func mixed() [][]seen {
	pick := numbers(9)
	var lists [][]seen
	for n := 1; n <= 5; n++ {
		for goods := 1; goods <= 3; goods++ {
			for _, most := range []int{2, 5, 20} {
				for range 8 {
					lists = append(lists, some(n, goods, most, 0, pick))
				}
				for range 16 {
					lists = append(lists, some(n, goods, most, 3*most, pick))
				}
			}
		}
	}
	return lists
}

// known are observations of which this and that is known.
func known() map[string][]seen {
	return map[string][]seen{
		"alone": {two(1, 2, 2, 0)},
		"good":  {two(1, 2, 2, 0), two(2, 1, 0, 2)},
		"bad":   {two(1, 2, 0, 2), two(2, 1, 2, 0)},
		"same":  {two(3, 4, 5, 6), two(3, 4, 5, 6)},
		"even":  {three(1, 1, 2, 1, 0, 0), three(2, 1, 1, 0, 1, 0), three(1, 2, 1, 0, 0, 1)}, // each preferred to the next one, none strictly
		"round": {three(2, 1, 3, 3, 0, 0), three(3, 2, 1, 0, 3, 0), three(1, 3, 2, 0, 0, 3)}, // each strictly preferred to the next one only
		"one":   {{[]int{3}, []int{4}}, {[]int{20}, []int{1}}, {[]int{1}, []int{20}}, {[]int{7}, []int{4}}},
		"rank":  {two(1, 1, 1, 1), two(1, 1, 2, 2), two(1, 1, 3, 3), two(1, 1, 4, 4), two(1, 1, 5, 5)},
		"dear":  {three(20, 20, 20, 20, 20, 20), three(1, 1, 1, 1, 0, 0), three(20, 20, 20, 0, 0, 1), three(1, 1, 1, 20, 20, 20), three(20, 1, 1, 1, 20, 20)},
		"long":  {two(1, 20, 20, 0), two(1, 10, 15, 1), two(1, 5, 10, 2), two(2, 3, 4, 4), two(20, 1, 0, 9)},
		"loop":  {two(1, 2, 0, 2), two(2, 1, 2, 0), two(1, 1, 9, 9), two(1, 2, 0, 4), two(2, 1, 4, 0)}, // two rings of two
	}
}

// markets are all of these.
func markets() [][]seen {
	lists := slices.Concat(tiny(), mixed())
	for _, l := range known() {
		lists = append(lists, l)
	}
	return lists
}

// invalid are no observations.
func invalid() [][]seen {
	lists := [][]seen{
		nil, {}, {{}}, {{Prices: []int{1}}}, {{Bundle: []int{1}}}, {{[]int{}, []int{}}}, slices.Repeat([]seen{two(1, 1, 1, 1)}, 6), make([]seen, 5), make([]seen, 100000), slices.Repeat([]seen{two(1, 1, 1, 1)}, 100000),
		{{[]int{1, 1, 1, 1}, []int{1, 1, 1, 1}}}, {{make([]int, 100000), make([]int, 100000)}}, {{slices.Repeat([]int{1}, 100000), slices.Repeat([]int{1}, 100000)}}, {{slices.Repeat([]int{1}, 257), slices.Repeat([]int{1}, 257)}},
	}
	for _, s := range []seen{
		{[]int{1, 1}, []int{1}}, {[]int{1}, []int{1}}, {[]int{1}, []int{1, 1}}, {[]int{1, 1}, nil}, {nil, []int{1, 1}}, {nil, nil}, {[]int{1, 1}, []int{1, 1, 1}}, {[]int{1, 1, 1}, []int{1, 1}}, three(1, 1, 1, 1, 1, 1),
		two(0, 1, 1, 1), two(1, 0, 1, 1), two(-1, 1, 1, 1), two(1, -1, 1, 1), two(21, 1, 1, 1), two(1, 21, 1, 1), two(1, 1, 0, 0), two(1, 1, -1, 1), two(1, 1, 1, -1), two(1, 1, 21, 1), two(1, 1, 1, 21), two(1, 1, 0, 21), two(0, 0, 0, 0),
		two(math.MinInt, 1, 1, 1), two(1, math.MaxInt, 1, 1), two(1, 1, math.MinInt, 1), two(1, 1, 1, math.MaxInt), two(1, 1, math.MinInt, math.MinInt), two(1<<32+1, 1, 1, 1), two(1, 1, 1<<32+1, 1), two(1, 257, 1, 1), two(1, 1, 1, 256), two(1, 1, -5, 5), two(1, 1, 1<<32, 0),
	} {
		lists = append(lists, []seen{two(1, 2, 2, 0), s}, []seen{s, two(1, 2, 2, 0)}, []seen{two(1, 2, 2, 0), two(1, 1, 1, 1), two(1, 1, 1, 1), two(20, 20, 20, 20), s})
		if len(s.Prices) == 2 && len(s.Bundle) == 2 {
			lists = append(lists, []seen{s})
		}
	}
	return lists
}

// cost is what bundle k costs at the prices of i.
func cost(l []seen, i, k int) int {
	n := 0
	for good, p := range l[i].Prices {
		n += p * l[k].Bundle[good]
	}
	return n
}

// all puts the results of a call into one list.
func all(results ...any) []any {
	return results
}

// wantRefused wants that error and nothing else: the results, the error last.
func wantRefused(t *testing.T, want api.Errno, name string, results []any) {
	t.Helper()
	last := len(results) - 1
	for _, x := range results[:last] {
		if s := fmt.Sprint(x); !slices.Contains([]string{"0", "false", "[]", "[0 0 0 0]"}, s) {
			t.Errorf("%s: %v next to an error", name, results)
		}
	}
	if results[last] != want {
		t.Errorf("%s: %v, want %d", name, results, want)
	}
}

// plainCalls are all calls that take only observations.
func plainCalls(l []seen) map[string][]any {
	return map[string][]any{
		"Check": all(price.Check(l)), "Costs": all(price.Costs(l)), "Prefers": all(price.Prefers(l)), "Ring": all(price.Ring(l)), "Numbers": all(price.Numbers(l)), "Share": all(price.Share(l)), "Most": all(price.Most(l)),
	}
}

// pairCalls are all calls that take two indices.
func pairCalls(l []seen, i, k int) map[string][]any {
	return map[string][]any{"Index": all(price.Index(l, i, k)), "Better": all(price.Better(l, i, k))}
}

// otherCalls are all other calls.
func otherCalls(l []seen, ring []int, u, k []int64, a, b int, bundle []int) map[string][]any {
	return map[string][]any{
		"IsRing": all(price.IsRing(l, ring)), "Waste": all(price.Waste(l, ring)), "AreNumbers": all(price.AreNumbers(l, u, k)), "Value": all(price.Value(l, u, k, bundle)), "Weak": all(price.Weak(l, a, b)),
	}
}

func TestCheck(t *testing.T) {
	for _, l := range markets() {
		if e := price.Check(l); e != api.OK {
			t.Errorf("Check of %v: %d", l, e)
		}
	}
	for _, s := range []seen{two(1, 20, 0, 20), two(20, 1, 20, 0), two(20, 20, 20, 20), {[]int{1}, []int{1}}, {[]int{20}, []int{20}}, three(1, 1, 1, 0, 0, 1), three(20, 20, 20, 20, 20, 20)} {
		if e := price.Check(slices.Repeat([]seen{s}, 5)); e != api.OK {
			t.Errorf("Check of %v five times: %d", s, e)
		}
	}
}

// What are no observations comes before all else that is wrong.
func TestNoMarket(t *testing.T) {
	for _, l := range invalid() {
		text := fmt.Sprintf("%.80s", fmt.Sprint(l))
		for name, results := range plainCalls(l) {
			wantRefused(t, api.ErrMarket, fmt.Sprint(name, " of ", text), results)
		}
		for _, i := range []int{0, 1, -1, 5, math.MinInt} {
			for name, results := range pairCalls(l, i, 0) {
				wantRefused(t, api.ErrMarket, fmt.Sprint(name, " of ", text), results)
			}
			for name, results := range pairCalls(l, 0, i) {
				wantRefused(t, api.ErrMarket, fmt.Sprint(name, " of ", text), results)
			}
		}
		for name, results := range otherCalls(l, nil, nil, nil, 1, 0, nil) {
			wantRefused(t, api.ErrMarket, fmt.Sprint(name, " of ", text), results)
		}
		for name, results := range otherCalls(l, []int{0, 1}, []int64{0, 0}, []int64{1, 1}, 1, 2, []int{1, 1}) {
			wantRefused(t, api.ErrMarket, fmt.Sprint(name, " of ", text), results)
		}
	}
}

// All numbers near the ends of their ranges, at each place.
func TestCheckRanges(t *testing.T) {
	for goods := 1; goods <= 3; goods++ {
		for x := -2; x <= 23; x++ {
			for at := range goods {
				a := seen{slices.Repeat([]int{1}, goods), slices.Repeat([]int{1}, goods)}
				b := seen{slices.Clone(a.Prices), slices.Clone(a.Bundle)}
				b.Prices[at] = x
				if e := price.Check([]seen{a, b}); (e == api.OK) != (x >= 1 && x <= 20) || e != api.OK && e != api.ErrMarket {
					t.Errorf("Check of prices %v: %d", b.Prices, e)
				}
				b.Prices[at], b.Bundle[at] = 1, x
				if e := price.Check([]seen{a, b}); (e == api.OK) != (x >= 0 && x <= 20 && goods+x > 1) || e != api.OK && e != api.ErrMarket {
					t.Errorf("Check of bundle %v: %d", b.Bundle, e)
				}
			}
		}
	}
}

func TestNoIndex(t *testing.T) {
	for _, name := range []string{"alone", "good", "even", "long"} {
		l := known()[name]
		for _, i := range []int{-1, len(l), len(l) + 1, 64, 256, 1 << 32, math.MaxInt, math.MinInt} {
			for _, k := range []int{0, len(l) - 1, -1, i} {
				for call, results := range pairCalls(l, i, k) {
					wantRefused(t, api.ErrArg, fmt.Sprint(call, " of ", name, i, k), results)
				}
				for call, results := range pairCalls(l, k, i) {
					wantRefused(t, api.ErrArg, fmt.Sprint(call, " of ", name, k, i), results)
				}
			}
		}
	}
}

func TestCosts(t *testing.T) {
	for _, l := range markets() {
		table, e := price.Costs(l)
		if len(table) != len(l) || e != api.OK {
			t.Fatalf("Costs of %v: %v, %d", l, table, e)
		}
		for i, row := range table {
			for k, n := range row {
				if n != cost(l, i, k) {
					t.Errorf("Costs of %v: %v", l, table)
				}
			}
			if len(row) != len(l) {
				t.Errorf("Costs of %v: %v", l, table)
			}
		}
	}
	for name, want := range map[string]string{"alone": "[[2]]", "good": "[[2 4] [4 2]]", "bad": "[[4 2] [2 4]]", "even": "[[1 1 2] [2 1 1] [1 2 1]]", "one": "[[12 3 60 12] [80 20 400 80] [4 1 20 4] [28 7 140 28]]"} {
		if table, e := price.Costs(known()[name]); fmt.Sprint(table) != want || e != api.OK {
			t.Errorf("Costs of %s: %v, %d", name, table, e)
		}
	}
}

func TestPrefers(t *testing.T) {
	for _, l := range markets() {
		table, e := price.Prefers(l)
		if len(table) != len(l) || e != api.OK {
			t.Fatalf("Prefers of %v: %v, %d", l, table, e)
		}
		for i, row := range table {
			for k, n := range row {
				own, other := cost(l, i, i), cost(l, i, k)
				if (n >= 1) != (other <= own) || (n == 2) != (other < own) || n < 0 || n > 2 {
					t.Errorf("Prefers of %v: %v", l, table)
				}
			}
			if len(row) != len(l) {
				t.Errorf("Prefers of %v: %v", l, table)
			}
		}
	}
	for name, want := range map[string]string{"alone": "[[1]]", "good": "[[1 0] [0 1]]", "bad": "[[1 2] [2 1]]", "even": "[[1 1 0] [0 1 1] [1 0 1]]", "same": "[[1 1] [1 1]]", "one": "[[1 2 0 1] [0 1 0 0] [2 2 1 2] [1 2 0 1]]"} {
		if table, e := price.Prefers(known()[name]); fmt.Sprint(table) != want || e != api.OK {
			t.Errorf("Prefers of %s: %v, %d", name, table, e)
		}
	}
}

// hidden is a list with more behind its end: what is there must be neither read nor written.
func hidden[T any](list []T, more T) []T {
	longer := append(slices.Clone(list), more, more, more)
	return longer[:len(list)]
}

// behind is observations with other numbers and other observations behind the ends of all lists.
func behind(l []seen) []seen {
	var longer []seen
	for _, s := range l {
		longer = append(longer, seen{hidden(s.Prices, -7), hidden(s.Bundle, 99)})
	}
	return hidden(longer, seen{[]int{-1}, nil})
}

// whole shows also what is behind the ends of the lists.
func whole(l []seen) string {
	out := ""
	for _, s := range l[:cap(l)] {
		out += fmt.Sprint(s.Prices[:cap(s.Prices)], s.Bundle[:cap(s.Bundle)], ";")
	}
	return out
}

// spoil writes to all of a list, also behind its end.
func spoil[T int | int64](lists ...[]T) {
	for _, list := range lists {
		for i := range list[:cap(list)] {
			list[:cap(list)][i] = -9
		}
	}
}

// Arguments are not changed, and what is done to a result shows in no argument and in no other result.
func TestMemory(t *testing.T) {
	for _, name := range []string{"alone", "good", "bad", "round", "long", "loop"} {
		l := behind(known()[name])
		ring, _, _ := price.Ring(l)
		ring = hidden(ring, 0)
		u, k, is, _ := price.Numbers(l)
		u, k = hidden(u, -3), hidden(k, 0)
		bundle := hidden([]int{20, 0, 1}[:len(l[0].Prices)], -1)
		shown := func() string {
			return fmt.Sprint(whole(l), ring[:cap(ring)], u[:cap(u)], k[:cap(k)], bundle[:cap(bundle)])
		}
		before := shown()
		calls := func() string {
			out := fmt.Sprint(plainCalls(l), pairCalls(l, 0, len(l)-1), otherCalls(l, ring, u, k, 1, 1, bundle))
			costs, _ := price.Costs(l)
			prefers, _ := price.Prefers(l)
			rung, _, _ := price.Ring(l)
			weak, _, _ := price.Weak(l, 1, 1)
			most, _ := price.Most(l)
			u2, k2, _, _ := price.Numbers(l)
			spoil(costs...)
			spoil(prefers...)
			spoil(rung, weak, most)
			spoil(u2, k2)
			return out
		}
		first := calls()
		if second := calls(); second != first {
			t.Errorf("%s: %s, then %s", name, first, second)
		}
		if after := shown(); after != before {
			t.Errorf("%s: the arguments were %s, then %s", name, before, after)
		}
		if _, e := price.Waste(l, ring); (e == api.OK) == is {
			t.Errorf("%s: Waste with more behind: %d", name, e)
		}
		if _, e := price.Value(l, u, k, bundle); (e == api.OK) != is {
			t.Errorf("%s: Value with more behind: %d", name, e)
		}
	}
}

// Lists of one result share no memory.
func TestMemoryOfLists(t *testing.T) {
	l := known()["long"]
	costs, _ := price.Costs(l)
	prefers, _ := price.Prefers(l)
	for _, table := range [][][]int{costs, prefers} {
		want := fmt.Sprint(table[1:])
		for range 10 {
			table[0] = append(table[0], -9)
		}
		clear(table[0])
		if got := fmt.Sprint(table[1:]); got != want || len(table) != 5 {
			t.Errorf("%s, then %s", want, got)
		}
	}
	u, k, _, _ := price.Numbers(l)
	want := fmt.Sprint(k)
	for range 10 {
		u = append(u, -9)
	}
	clear(u)
	if got := fmt.Sprint(k); got != want {
		t.Errorf("%s, then %s", want, got)
	}
}
