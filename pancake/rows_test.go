package pancake_test

import (
	"fmt"
	"slices"
	"testing"

	"bibelot/api"
	"bibelot/pancake"
)

// points follow the definition of the picture.
func points(s []int) []int {
	list := []int{0}
	for _, x := range s {
		if x > 0 {
			list = append(list, 2*x-1, 2*x)
		} else {
			list = append(list, 2*-x, 2*-x-1)
		}
	}
	return append(list, 2*len(s)+1)
}

// classes puts those of n things together that belong together, directly or by others: each class rising, the classes by their first ones.
func classes(n int, together func(a, b int) bool) [][]int {
	class := make([]int, n)
	for i := range class {
		class[i] = i
	}
	for changed := true; changed; {
		changed = false
		for a := range n {
			for b := range n {
				if class[a] < class[b] && (together(a, b) || together(b, a)) {
					class[b], changed = class[a], true
				}
			}
		}
	}
	lists := make([][]int, n)
	for i, c := range class {
		lists[c] = append(lists[c], i)
	}
	return slices.DeleteFunc(lists, func(list []int) bool {
		return len(list) == 0
	})
}

// drawn is a row's picture: the places of the two ends of each grey line, its circles and its components, both as lists of grey lines.
type drawn struct {
	points     []int
	ends       [][2]int
	circles    [][]int
	components [][]int
}

func draw(s []int) drawn {
	d := drawn{points: points(s)}
	for i := range len(s) + 1 {
		d.ends = append(d.ends, [2]int{slices.Index(d.points, 2*i), slices.Index(d.points, 2*i+1)})
	}
	// Two grey lines are in one circle if a black line joins an end of the one with one of the other.
	d.circles = classes(len(d.ends), func(a, b int) bool {
		for _, x := range d.ends[a] {
			for _, y := range d.ends[b] {
				if x/2 == y/2 {
					return true
				}
			}
		}
		return false
	})
	circle := map[int]int{}
	for c, lines := range d.circles {
		for _, i := range lines {
			circle[i] = c
		}
	}
	d.components = classes(len(d.ends), func(a, b int) bool {
		return circle[a] == circle[b] || d.cross(a, b)
	})
	return d
}

func (d drawn) cross(a, b int) bool {
	low, high := min(d.ends[a][0], d.ends[a][1]), max(d.ends[a][0], d.ends[a][1])
	between := 0
	for _, place := range d.ends[b] {
		if low < place && place < high {
			between++
		}
	}
	return between == 1
}

func (d drawn) isBad(component []int) bool {
	long := false
	for _, circle := range d.circles {
		if slices.Contains(component, circle[0]) && len(circle) > 1 {
			long = true
		}
	}
	for _, i := range component {
		if d.ends[i][0]%2 == d.ends[i][1]%2 {
			return false
		}
	}
	return long
}

// badOnes are the numbers of the bad components, and those of them to which the points that are left belong, in their order.
func (d drawn) badOnes() (bad, owners []int) {
	for c, lines := range d.components {
		if d.isBad(lines) {
			bad = append(bad, c)
		}
	}
	for _, number := range d.points {
		for _, c := range bad {
			if slices.Contains(d.components[c], number/2) {
				owners = append(owners, c)
			}
		}
	}
	return bad, owners
}

// follow tells whether the points of an owner all follow one another: whether the list can begin at some place so that they come first.
func follow(owners []int, owner int) bool {
	count := 0
	for _, o := range owners {
		if o == owner {
			count++
		}
	}
	for start := range owners {
		rotated := append(slices.Clone(owners[start:]), owners[:start]...)
		if !slices.ContainsFunc(rotated[:count], func(o int) bool { return o != owner }) {
			return true
		}
	}
	return false
}

// counts are what Components should return, by the definitions.
func (d drawn) counts() (components, bad, hurdles int, fortress bool) {
	list, owners := d.badOnes()
	fortress = true
	for _, h := range list {
		if !follow(owners, h) {
			continue
		}
		hurdles++
		var rest []int
		for _, o := range owners {
			if o != h {
				rest = append(rest, o)
			}
		}
		super := false
		for _, other := range list {
			super = super || other != h && !follow(owners, other) && follow(rest, other)
		}
		fortress = fortress && super
	}
	return len(d.components), len(list), hurdles, fortress && hurdles%2 == 1
}

// wantDrawn wants all of a row's picture as the definitions have it, and the distance of P7.8.
func wantDrawn(t *testing.T, s []int) {
	t.Helper()
	d := draw(s)
	if p, e := pancake.Picture(s); !slices.Equal(p, d.points) || e != api.OK {
		t.Errorf("Picture of %v: %v, %d", s, p, e)
	}
	if c, e := pancake.Circles(s); fmt.Sprint(c) != fmt.Sprint(d.circles) || e != api.OK {
		t.Errorf("Circles of %v: %v, %d, want %v", s, c, e, d.circles)
	}
	components, bad, hurdles, fortress := d.counts()
	if a, b, h, f, e := pancake.Components(s); a != components || b != bad || h != hurdles || f != fortress || e != api.OK {
		t.Errorf("Components of %v: %d, %d, %d, %t, %d, want %d, %d, %d, %t", s, a, b, h, f, e, components, bad, hurdles, fortress)
	}
	distance := len(s) + 1 - len(d.circles) + hurdles
	if fortress {
		distance++
	}
	if got, e := pancake.Distance(s); got != distance || e != api.OK {
		t.Errorf("Distance of %v: %d, %d, want %d", s, got, e, distance)
	}
}

// framed puts a list between a least number and a greatest one.
func framed(list []int) []int {
	out := []int{1}
	for _, x := range list {
		out = append(out, x+1)
	}
	return append(out, len(list)+2)
}

// inflated has for each number of a list a part of its own, of numbers that lie where the number lay.
func inflated(list []int, parts [][]int) []int {
	below := make([]int, len(list)) // for each number: how many numbers the parts of lesser ones have
	for i, x := range list {
		for k, y := range list {
			if y < x {
				below[i] += len(parts[k])
			}
		}
	}
	var out []int
	for i := range list {
		for _, x := range parts[i] {
			out = append(out, x+below[i])
		}
	}
	return out
}

// nested is a row of positive numbers with bad components within and behind one another.
func nested(pick func(int) int, depth int) []int {
	shapes := [][]int{{2, 1}, {2, 1, 3}, {3, 2, 1}, {2, 4, 1, 3}, {1, 2}, {1, 2, 3}, {2, 1, 3, 5, 4}, {1}}
	list := shapes[pick(len(shapes))]
	parts := make([][]int, len(list))
	for i := range parts {
		parts[i] = []int{1}
		if depth > 0 && pick(2) == 0 {
			parts[i] = framed(nested(pick, depth-1))
		}
	}
	return inflated(list, parts)
}

// mixed is a nested row, at times with some part turned.
func mixed(pick func(int) int, most int) []int {
	for {
		s := nested(pick, 1+pick(3))
		if len(s) > most {
			continue
		}
		if pick(3) == 0 {
			i := pick(len(s))
			s = turned(s, i, i+pick(len(s)-i), true)
		}
		return s
	}
}

// fortresses are rows with three hurdles, and with five, each within a bad component that is no hurdle.
func fortresses() [][]int {
	return [][]int{
		{2, 4, 3, 5, 1, 6, 8, 10, 9, 11, 7, 12, 14, 16, 15, 17, 13},
		{2, 4, 3, 5, 1, 6, 8, 10, 9, 11, 7, 12, 14, 16, 15, 17, 13, 18, 20, 22, 21, 23, 19, 24, 26, 28, 27, 29, 25},
	}
}

func TestDrawnAll(t *testing.T) {
	for n := 1; n <= 5; n++ {
		for _, s := range lists(n, true) {
			wantDrawn(t, s)
		}
	}
	for n := 6; n <= 7; n++ {
		for _, s := range lists(n, false) {
			wantDrawn(t, s)
		}
	}
}

func TestDrawnSome(t *testing.T) {
	pick := numbers(1)
	for i := range 200 {
		wantDrawn(t, some(1+i%40, i%3 > 0, pick))
	}
	seen := map[string]bool{}
	for range 1500 {
		s := mixed(pick, 40)
		wantDrawn(t, s)
		_, bad, hurdles, fortress, _ := pancake.Components(s)
		seen[fmt.Sprint("hurdles ", hurdles)] = true
		seen[fmt.Sprint("fortress ", fortress)] = true
		seen[fmt.Sprint("others ", bad > hurdles)] = true
	}
	for _, name := range []string{"hurdles 0", "hurdles 1", "hurdles 2", "hurdles 3", "hurdles 4", "hurdles 5", "fortress true", "others true"} {
		if !seen[name] {
			t.Errorf("no row has %s", name)
		}
	}
}

func TestDrawnKnown(t *testing.T) {
	for _, x := range []struct {
		s                        []int
		picture, circles         string
		components, bad, hurdles int
		fortress                 bool
		distance                 int
	}{
		{[]int{1}, "[0 1 2 3]", "[[0] [1]]", 2, 0, 0, false, 0},
		{[]int{-1}, "[0 2 1 3]", "[[0 1]]", 1, 0, 0, false, 1},
		{[]int{2, 1}, "[0 3 4 1 2 5]", "[[0 1 2]]", 1, 1, 1, false, 3},
		{[]int{-2, -1}, "[0 4 3 2 1 5]", "[[0 2] [1]]", 2, 0, 0, false, 1},
		{[]int{-1, -2}, "[0 2 1 4 3 5]", "[[0 1 2]]", 1, 0, 0, false, 2},
		{[]int{3, 2, 1}, "[0 5 6 3 4 1 2 7]", "[[0 2] [1 3]]", 1, 1, 1, false, 3},
		{[]int{2, 1, 3, 5, 4}, "[0 3 4 1 2 5 6 9 10 7 8 11]", "[[0 1 2] [3 4 5]]", 2, 2, 2, false, 6},
		{[]int{2, 4, 3, 5, 1}, "[0 3 4 7 8 5 6 9 10 1 2 11]", "[[0 1 5] [2 3 4]]", 2, 2, 2, false, 6},
		{fortresses()[0], "[0 3 4 7 8 5 6 9 10 1 2 11 12 15 16 19 20 17 18 21 22 13 14 23 24 27 28 31 32 29 30 33 34 25 26 35]", "[[0 1 5] [2 3 4] [6 7 11] [8 9 10] [12 13 17] [14 15 16]]", 6, 6, 3, true, 16},
	} {
		p, _ := pancake.Picture(x.s)
		c, _ := pancake.Circles(x.s)
		d, _ := pancake.Distance(x.s)
		got := fmt.Sprintln(p, c, all(pancake.Components(x.s)), d)
		if want := fmt.Sprintln(x.picture, x.circles, []any{x.components, x.bad, x.hurdles, x.fortress, api.OK}, x.distance); got != want {
			t.Errorf("%v: %s, want %s", x.s, got, want)
		}
	}
	if a, b, h, f, e := pancake.Components(first(40)); a != 41 || b+h != 0 || f || e != api.OK {
		t.Errorf("Components of the ordered row: %d, %d, %d, %t, %d", a, b, h, f, e)
	}
	for _, s := range fortresses() {
		if _, _, _, f, _ := pancake.Components(s); !f {
			t.Errorf("%v is no fortress", s)
		}
	}
}

// All distances, by trying all turns.
func TestDistanceAll(t *testing.T) {
	for n := 1; n <= 6; n++ {
		least := far(first(n), rowTurned)
		for _, s := range lists(n, true) {
			if d, e := pancake.Distance(s); d != least[key(s)] || e != api.OK {
				t.Errorf("Distance of %v: %d, %d, want %d", s, d, e, least[key(s)])
			}
		}
	}
}

// What is 0 just for the ordered row, changes by at most 1 with each turn, and falls with some turn of each other row, is the distance.
func TestDistanceSteps(t *testing.T) {
	rows := fortresses()
	pick := numbers(5)
	for i := range 40 {
		rows = append(rows, some(7+i%10, i%2 == 0, pick), mixed(pick, 20))
	}
	for _, s := range append(rows, some(40, true, pick)) {
		for steps := 0; ; steps++ {
			d, _ := pancake.Distance(s)
			if d == 0 || steps > 50 {
				break
			}
			s = lower(t, s, d)
		}
		if !slices.Equal(s, first(len(s))) {
			t.Errorf("the distance of %v is 0", s)
		}
	}
}

// lower returns a row with a lesser distance after one turn. No turn may change the distance by more than 1.
func lower(t *testing.T, s []int, d int) []int {
	t.Helper()
	var found []int
	for _, next := range rowTurned(s) {
		after, e := pancake.Distance(next)
		if after < d-1 || after > d+1 || e != api.OK {
			t.Fatalf("%v has distance %d, %v has %d, %d", s, d, next, after, e)
		}
		if after < d {
			found = next
		}
	}
	if found == nil {
		t.Fatalf("no turn of %v has less than its distance %d", s, d)
	}
	return found
}

func wantOrderTurns(t *testing.T, s []int, number int) {
	t.Helper()
	list, e := pancake.OrderTurns(s)
	if len(list) != number || e != api.OK {
		t.Errorf("OrderTurns of %v: %v, %d, want %d", s, list, e, number)
	}
	at := s
	for _, x := range list {
		if x[0] < 0 || x[0] > x[1] || x[1] >= len(s) {
			t.Fatalf("OrderTurns of %v: %v", s, list)
		}
		at = turned(at, x[0], x[1], true)
	}
	if !slices.Equal(at, first(len(s))) {
		t.Errorf("OrderTurns of %v: %v leads to %v", s, list, at)
	}
}

func TestOrderTurns(t *testing.T) {
	for n := 1; n <= 6; n++ {
		least := far(first(n), rowTurned)
		rows := lists(n, true)
		pick := numbers(uint64(n))
		for _, s := range rows {
			if n <= 4 || pick(len(rows)) < 60 {
				wantOrderTurns(t, s, least[key(s)])
			}
		}
	}
	wantOrderTurns(t, []int{2, 1}, 3)
	wantOrderTurns(t, []int{-1}, 1)
	wantOrderTurns(t, first(6), 0)
	for n := 7; n <= 40; n++ {
		wantRefused(t, api.ErrArg, fmt.Sprint("OrderTurns of ", n), all(pancake.OrderTurns(first(n))))
		s := some(n, true, numbers(uint64(n)))
		wantRefused(t, api.ErrArg, fmt.Sprint("OrderTurns of ", s), all(pancake.OrderTurns(s)))
	}
}

// W3: a turn that is made twice changes nothing.
func TestTurnTwice(t *testing.T) {
	s := some(12, true, numbers(12))
	for k := range s {
		for i := range k + 1 {
			once, _ := pancake.Turn(s, i, k)
			twice, _ := pancake.Turn(once, i, k)
			if !slices.Equal(twice, s) || slices.Equal(once, s) {
				t.Errorf("%v, turns of %d, %d: %v, %v", s, i, k, once, twice)
			}
		}
	}
}
