package stall_test

import (
	"fmt"
	"maps"
	"regexp"
	"slices"
	"sort"
	"strconv"
	"strings"
	"testing"

	"bibelot/stall"
)

// plain is a stall that follows the chapter without the other packages: it answers by trying all that there is.
type plain struct {
	dice   map[string][]int
	pegs   [8]bool
	discs  [4]int
	on     [9]bool
	square [9]int
	stack  [5]int
	wires  [][2]int
	seen   [][4]int
	book   []string
}

func newPlain() *plain {
	return &plain{dice: map[string][]int{}, pegs: [8]bool{false, true, true, true, true, true, true, true}, stack: [5]int{1, 2, 3, 4, 5}}
}

// shape is what a line must look like: N is a name, F a number.
func shape(text string) *regexp.Regexp {
	text = strings.NewReplacer("N", "[a-z]{1,12}", "F", "(0|-?[1-9][0-9]{0,6})").Replace(text)
	return regexp.MustCompile("^" + text + "$")
}

var commandShapes = []*regexp.Regexp{shape("die N( F){1,8}"), shape("sell N"), shape("jump F F F"), shape("disc F F"), shape("press F"), shape("write F F F"), shape("flip F"), shape("wire F F"), shape("see F F F F")}
var questionShapes = []*regexp.Regexp{shape("beats N N"), shape("sums|ring|pegs|tower|dark|fill|cakes|kind|taste|share")}

func hasShape(line string, shapes []*regexp.Regexp) bool {
	return slices.ContainsFunc(shapes, func(s *regexp.Regexp) bool {
		return s.FindString(line) == line
	})
}

func (p *plain) reply(line string) string {
	if len(line) > 512 || strings.Contains(line, "\n") {
		return "error 2"
	}
	if line == "" || line[0] == '#' {
		return ""
	}
	list := strings.Split(line, " ")
	var n []int
	for _, word := range list[1:] {
		if x, err := strconv.Atoi(word); err == nil {
			if x > 1000000 || x < -1000000 {
				return "error 100"
			}
			n = append(n, x)
		}
	}
	switch {
	case hasShape(line, commandShapes):
		if e := p.do(list, n); e > 0 {
			return fmt.Sprint("error ", e)
		}
		p.book = append(p.book, line)
		return "ok"
	case hasShape(line, questionShapes):
		return p.ask(list)
	}
	return "error 100"
}

func within(least, most int, list ...int) bool {
	return slices.Min(list) >= least && slices.Max(list) <= most
}

func (p *plain) do(list []string, n []int) int {
	switch list[0] {
	case "die":
		return p.die(list[1], n)
	case "sell":
		if p.dice[list[1]] == nil {
			return 4
		}
		delete(p.dice, list[1])
	case "jump":
		return p.jump(n[0], n[1], n[2])
	case "disc":
		return p.disc(n[0], n[1])
	case "press":
		if !within(0, 8, n[0]) {
			return 1
		}
		p.on = pressed(p.on, n[0])
	case "write":
		return p.write(n[0], n[1], n[2])
	case "flip":
		if !within(2, 5, n[0]) {
			return 1
		}
		slices.Reverse(p.stack[:n[0]])
	case "wire":
		if !within(0, 3, n...) || n[0] == n[1] {
			return 1
		}
		if len(p.wires) == 8 {
			return 7
		}
		p.wires = append(p.wires, [2]int(n))
	case "see":
		if len(p.seen) == 5 {
			return 7
		}
		if !within(1, 20, n[:2]...) || !within(0, 20, n[2:]...) || n[2]+n[3] == 0 {
			return 90
		}
		p.seen = append(p.seen, [4]int(n))
	}
	return 0
}

func (p *plain) die(name string, sides []int) int {
	switch {
	case p.dice[name] != nil:
		return 5
	case len(p.dice) == 6:
		return 7
	case !sort.IntsAreSorted(sides) || !within(0, 60, sides...):
		return 10
	}
	p.dice[name] = sides
	return 0
}

func canJump(pegs [8]bool, a, b, c int) bool {
	return within(0, 7, a, b, c) && (b == a+1 && c == b+1 || b == a-1 && c == b-1) && pegs[a] && pegs[b] && !pegs[c]
}

func (p *plain) jump(a, b, c int) int {
	if !canJump(p.pegs, a, b, c) {
		return 21
	}
	p.pegs[a], p.pegs[b], p.pegs[c] = false, false, true
	return 0
}

func canMove(discs [4]int, disc, peg int) bool {
	if !within(0, 3, disc) || !within(0, 2, peg) || discs[disc] == peg {
		return false
	}
	for smaller := range disc {
		if discs[smaller] == peg || discs[smaller] == discs[disc] {
			return false
		}
	}
	return true
}

func (p *plain) disc(disc, peg int) int {
	if !canMove(p.discs, disc, peg) {
		return 30
	}
	p.discs[disc] = peg
	return 0
}

func pressed(on [9]bool, lamp int) [9]bool {
	for other := range on {
		rows, columns := other/3-lamp/3, other%3-lamp%3
		if rows*rows+columns*columns <= 1 {
			on[other] = !on[other]
		}
	}
	return on
}

func (p *plain) write(i, k, number int) int {
	if !within(0, 2, i, k) {
		return 1
	}
	square := p.square
	square[3*i+k] = number
	if !within(0, 9, square[:]...) {
		return 50
	}
	for at, x := range square {
		if x != 0 && slices.Contains(square[at+1:], x) {
			return 50
		}
	}
	p.square = square
	return 0
}

func (p *plain) ask(list []string) string {
	switch list[0] {
	case "sums":
		return p.sums()
	case "beats":
		a, b := p.dice[list[1]], p.dice[list[2]]
		if a == nil || b == nil {
			return "error 4"
		}
		return fmt.Sprint("beats ", beats(a, b), " ", beats(b, a))
	case "ring":
		return "ring " + yes(p.ring())
	case "pegs":
		return fmt.Sprint("pegs ", fewest(p.pegs))
	case "tower":
		return fmt.Sprint("tower ", towers()[p.discs])
	case "dark":
		return fmt.Sprint("dark ", darkness()[p.on])
	case "fill":
		return fmt.Sprint("fill ", p.fill())
	case "cakes":
		return fmt.Sprint("cakes ", orders()[p.stack])
	case "kind":
		return "kind " + p.kind()
	}
	if len(p.seen) == 0 {
		return "error 4"
	}
	is, over, under := p.taste()
	if list[0] == "taste" {
		return "taste " + yes(is)
	}
	return fmt.Sprint("share ", over, " ", under)
}

func yes(is bool) string {
	if is {
		return "yes"
	}
	return "no"
}

func (p *plain) sums() string {
	if len(p.dice) == 0 {
		return "error 4"
	}
	ways := map[int]int{}
	var roll func(dice [][]int, sum int)
	roll = func(dice [][]int, sum int) {
		if len(dice) == 0 {
			ways[sum]++
			return
		}
		for _, side := range dice[0] {
			roll(dice[1:], sum+side)
		}
	}
	roll(slices.Collect(maps.Values(p.dice)), 0)
	reply := "sums"
	for _, sum := range slices.Sorted(maps.Keys(ways)) {
		reply += fmt.Sprintf(" %d:%d", sum, ways[sum])
	}
	return reply
}

// beats is in how many results a shows more than b.
func beats(a, b []int) int {
	n := 0
	for _, x := range a {
		for _, y := range b {
			if x > y {
				n++
			}
		}
	}
	return n
}

// around calls try for all lists of at least two different ones of n, in any order.
func around(n int, try func(list []int)) {
	var add func(list []int)
	add = func(list []int) {
		if len(list) > 1 {
			try(list)
		}
		for next := range n {
			if !slices.Contains(list, next) {
				add(append(slices.Clone(list), next))
			}
		}
	}
	add(nil)
}

func (p *plain) ring() bool {
	dice := slices.Collect(maps.Values(p.dice))
	is := false
	around(len(dice), func(list []int) {
		closed := len(list) > 2
		for at, i := range list {
			k := list[(at+1)%len(list)]
			closed = closed && beats(dice[i], dice[k]) > beats(dice[k], dice[i])
		}
		is = is || closed
	})
	return is
}

func fewest(pegs [8]bool) int {
	least := 0
	for _, is := range pegs {
		if is {
			least++
		}
	}
	for a := range 8 {
		for b := range 8 {
			for c := range 8 {
				if canJump(pegs, a, b, c) {
					next := pegs
					next[a], next[b], next[c] = false, false, true
					least = min(least, fewest(next))
				}
			}
		}
	}
	return least
}

// levels is how many steps each thing is away from the first one.
func levels[T comparable](first T, steps func(T) []T) map[T]int {
	level := map[T]int{first: 0}
	for list := []T{first}; len(list) > 0; list = list[1:] {
		for _, next := range steps(list[0]) {
			if _, known := level[next]; !known {
				level[next] = level[list[0]] + 1
				list = append(list, next)
			}
		}
	}
	return level
}

func towers() map[[4]int]int {
	return levels([4]int{2, 2, 2, 2}, func(discs [4]int) [][4]int {
		var all [][4]int
		for disc := range 4 {
			for peg := range 3 {
				if canMove(discs, disc, peg) {
					next := discs
					next[disc] = peg
					all = append(all, next)
				}
			}
		}
		return all
	})
}

func darkness() map[[9]bool]int {
	return levels([9]bool{}, func(on [9]bool) [][9]bool {
		var all [][9]bool
		for lamp := range 9 {
			all = append(all, pressed(on, lamp))
		}
		return all
	})
}

func orders() map[[5]int]int {
	return levels([5]int{1, 2, 3, 4, 5}, func(stack [5]int) [][5]int {
		var all [][5]int
		for k := 2; k <= 5; k++ {
			next := stack
			slices.Reverse(next[:k])
			all = append(all, next)
		}
		return all
	})
}

// magic are all magic squares of order 3: the eight turns of the one that is known, made by exchanging rows and columns.
func magic() [][9]int {
	var all [][9]int
	for _, s := range [][9]int{{2, 7, 6, 9, 5, 1, 4, 3, 8}, {2, 9, 4, 7, 5, 3, 6, 1, 8}} {
		for range 2 {
			for range 2 {
				all = append(all, s)
				s = [9]int{s[2], s[1], s[0], s[5], s[4], s[3], s[8], s[7], s[6]}
			}
			s = [9]int{s[6], s[7], s[8], s[3], s[4], s[5], s[0], s[1], s[2]}
		}
	}
	return all
}

func (p *plain) fill() int {
	n := 0
	for _, filling := range magic() {
		fits := true
		for at, x := range p.square {
			fits = fits && (x == 0 || x == filling[at])
		}
		if fits {
			n++
		}
	}
	return n
}

// joined tells whether wires with one of these marks join 0 and 3.
func (p *plain) joined(marks string) bool {
	reached := levels(0, func(place int) []int {
		var all []int
		for i, wire := range p.wires {
			if marks[i] == '+' && wire[0] == place {
				all = append(all, wire[1])
			}
			if marks[i] == '+' && wire[1] == place {
				all = append(all, wire[0])
			}
		}
		return all
	})
	_, is := reached[3]
	return is
}

func (p *plain) kind() string {
	type turn struct {
		marks string
		cut   bool
	}
	told := map[turn]bool{}
	var shortWins func(turn) bool
	shortWins = func(t turn) bool {
		if won, known := told[t]; known {
			return won
		}
		mark, won := "+", false
		if t.cut {
			mark, won = "-", true
		}
		if !strings.Contains(t.marks, ".") {
			won = p.joined(t.marks)
		}
		for i := range t.marks {
			if t.marks[i] == '.' && shortWins(turn{t.marks[:i] + mark + t.marks[i+1:], !t.cut}) != t.cut {
				won = !t.cut
				break
			}
		}
		told[t] = won
		return won
	}
	start := strings.Repeat(".", len(p.wires))
	if shortWins(turn{start, true}) {
		return "short"
	}
	if shortWins(turn{start, false}) {
		return "first"
	}
	return "cut"
}

// taste tells whether there is no ring, and the least, over all lists that may be rings, of the greatest ratio of the cost of the next bundle to that of the own one: above it there is a ring by the weak taste.
func (p *plain) taste() (is bool, over, under int) {
	cost := func(i, k int) int {
		return p.seen[i][0]*p.seen[k][2] + p.seen[i][1]*p.seen[k][3]
	}
	is, over, under = true, 1, 1
	around(len(p.seen), func(list []int) {
		ring, strictly := true, false
		most := [2]int{0, 1}
		for at, i := range list {
			k := list[(at+1)%len(list)]
			ring = ring && cost(i, k) <= cost(i, i)
			strictly = strictly || cost(i, k) < cost(i, i)
			if cost(i, k)*most[1] > most[0]*cost(i, i) {
				most = [2]int{cost(i, k), cost(i, i)}
			}
		}
		is = is && !(ring && strictly)
		if most[0]*under < over*most[1] {
			over, under = most[0], most[1]
		}
	})
	for d := under; d > 1; d-- {
		if over%d == 0 && under%d == 0 {
			over, under = over/d, under/d
		}
	}
	return is, over, under
}

// numbers makes a source of numbers below a bound, always the same ones for a seed.
func numbers(seed uint64) func(below int) int {
	return func(below int) int {
		seed = seed*6364136223846793005 + 1442695040888963407
		return int(seed >> 33 % uint64(below))
	}
}

func someDie(pick func(int) int) string {
	known := []string{"2 4 9", "1 6 8", "3 5 7", "0 0 4 4 4 4", "1 1 1 5 5 5", "2 2 2 2 6 6", "3 3 3 3 3 3", "61", "-1 2"}
	if n := pick(len(known) + 3); n < len(known) {
		return known[n]
	}
	var sides []int
	for range 1 + pick(4) {
		sides = append(sides, pick(9))
	}
	if pick(8) > 0 {
		slices.Sort(sides)
	}
	return strings.Trim(fmt.Sprint(sides), "[]")
}

func someName(pick func(int) int) string {
	names := []string{"a", "b", "c", "ab", "d", "e", "zz", "aa"}
	return names[pick(len(names))]
}

// someLine is a line of any kind, most often one that may be ok.
func someLine(pick func(int) int) string {
	amount := func() int {
		return []int{0, 0, 1, 2, 3, 4, 6, 20, 21}[pick(9)]
	}
	var line string
	switch pick(14) {
	case 0, 1:
		line = "die " + someName(pick) + " " + someDie(pick)
	case 2:
		line = "sell " + someName(pick)
	case 3:
		a, d := pick(9), 1-2*pick(2)
		if pick(2) == 0 {
			a, d = 2+2*pick(3), -1
		}
		line = fmt.Sprintf("jump %d %d %d", a, a+d, a+2*d)
	case 4:
		line = fmt.Sprintf("disc %d %d", pick(1+pick(5)), pick(4)-pick(2))
	case 5:
		line = fmt.Sprintf("press %d", pick(10))
	case 6:
		line = fmt.Sprintf("write %d %d %d", pick(4)-pick(2), pick(3), pick(2)*pick(11))
	case 7:
		line = fmt.Sprintf("flip %d", pick(7))
	case 8:
		line = fmt.Sprintf("wire %d %d", pick(4), pick(5)-pick(2))
	case 9:
		line = fmt.Sprintf("see %d %d %d %d", 1+amount(), 1+amount(), amount(), amount())
	case 10:
		line = "beats " + someName(pick) + " " + someName(pick)
	default:
		line = questions[pick(len(questions))]
	}
	if pick(12) == 0 {
		return spoilt(line, pick)
	}
	return line
}

// spoilt is the line with something that most often makes another one of it.
func spoilt(line string, pick func(int) int) string {
	list := strings.Split(line, " ")
	at := pick(len(list))
	other := []string{"", "0", "-1", "a", "1000000", "1000001", "01", "-0", "A", "#", "aaaaaaaaaaaaa", "flip", "see"}
	switch pick(4) {
	case 0:
		list = slices.Delete(list, at, at+1)
	case 1:
		list = slices.Insert(list, at, other[pick(len(other))])
	case 2:
		list[at] = other[pick(len(other))]
	default:
		list = append(list, other[pick(len(other))])
	}
	return strings.Join(list, " ")
}

func wantAs(t *testing.T, s *stall.Stall, p *plain) {
	t.Helper()
	if got, want := fmt.Sprint(s.Dice(), s.Stack()), fmt.Sprint(slices.Sorted(maps.Keys(p.dice)), p.stack); got != want {
		t.Errorf("behind %q: %s, want %s", p.book, got, want)
	}
	want := ""
	for _, line := range p.book {
		want += line + "\n"
	}
	if got := s.Book(); got != want {
		t.Errorf("Book: %q, want %q", got, want)
	}
}

// All replies are what the chapter says, and another stall that is given only the lines of the book goes on in the same way.
func TestScripts(t *testing.T) {
	met := map[string]int{}
	for seed := range uint64(400) {
		pick := numbers(seed)
		s, p := stall.New(), newPlain()
		for at := range 150 {
			line := someLine(pick)
			got, want := s.Do(line), p.reply(line)
			if got != want {
				t.Fatalf("behind %q: %q: %q, want %q", p.book, line, got, want)
			}
			met[got]++
			met[strings.Split(line, " ")[0]+": "+got]++
			if at%50 == 49 {
				wantAs(t, s, p)
				wantLook(t, "the book", again(t, s.Book()), look(s))
				s = [...]*stall.Stall{s, s.Fork(), again(t, s.Book())}[pick(3)]
			}
		}
	}
	for _, want := range []string{"ring yes", "ring no", "pegs 4", "tower 13", "tower 14", "tower 15", "dark 4", "fill 0", "fill 1", "fill 2", "fill 8", "cakes 0", "cakes 4", "kind cut", "kind first", "kind short", "taste yes", "taste no", "share 1 1", "error 100", "die: error 5", "die: error 7", "die: error 10", "sell: error 4", "jump: error 21", "disc: error 30", "press: error 1", "write: error 1", "write: error 50", "flip: error 1", "wire: error 1", "wire: error 7", "see: error 7", "see: error 90", "sums: error 4", "beats: error 4", "taste: error 4", "share: error 4", "die: ok", "sell: ok", "jump: ok", "disc: ok", "press: ok", "write: ok", "flip: ok", "wire: ok", "see: ok"} {
		if met[want] == 0 {
			t.Errorf("no script has led to %q", want)
		}
	}
}
