package switches_test

import (
	"slices"
	"strings"
	"testing"

	"bibelot/api"
	"bibelot/switches"
)

// reached are the places to which these wires lead from a place.
func reached(g game, wires []int, from int) map[int]bool {
	places := map[int]bool{from: true}
	for range g.N {
		for _, index := range wires {
			if i, k := g.Wires[index][0], g.Wires[index][1]; places[i] || places[k] {
				places[i], places[k] = true, true
			}
		}
	}
	return places
}

// joined follows the definition.
func joined(g game, p string) bool {
	var kept []int
	for index := range g.Wires {
		if p[index] == '+' {
			kept = append(kept, index)
		}
	}
	return reached(g, kept, g.S)[g.T]
}

func replaced(p string, index int, character string) string {
	return p[:index] + character + p[index+1:]
}

// player plays a game to its end in all ways.
type player struct {
	game
	told [2]map[string]bool
}

func newPlayer(g game) player {
	return player{g, [2]map[string]bool{{}, {}}}
}

// wins follows the definition.
func (g player) wins(p string, cutMoves bool) bool {
	if !strings.Contains(p, ".") {
		return joined(g.game, p)
	}
	told, taken := g.told[0], "+"
	if cutMoves {
		told, taken = g.told[1], "-"
	}
	if won, is := told[p]; is {
		return won
	}
	number, won := 0, 0
	for index := range g.Wires {
		if p[index] == '.' {
			number++
			if g.wins(replaced(p, index, taken), !cutMoves) {
				won++
			}
		}
	}
	told[p] = won == number || won > 0 && !cutMoves
	return told[p]
}

func (g player) check(t *testing.T, p string) {
	t.Helper()
	if is, e := switches.Joined(g.game, p); is != joined(g.game, p) || e != api.OK {
		t.Errorf("Joined of %v, %s: %t, %d", g.game, p, is, e)
	}
	for _, cutMoves := range []bool{false, true} {
		if won, e := switches.Wins(g.game, p, cutMoves); won != g.wins(p, cutMoves) || e != api.OK {
			t.Errorf("Wins of %v, %s, %t: %t, %d", g.game, p, cutMoves, won, e)
		}
		g.checkBest(t, p, cutMoves)
	}
}

// checkBest wants a wire that wins just if there is one.
func (g player) checkBest(t *testing.T, p string, cutMoves bool) {
	t.Helper()
	taken := "+"
	if cutMoves {
		taken = "-"
	}
	var best []int
	for index := range g.Wires {
		if p[index] == '.' && g.wins(replaced(p, index, taken), !cutMoves) != cutMoves {
			best = append(best, index)
		}
	}
	wire, is, e := switches.Best(g.game, p, cutMoves)
	if is != (len(best) > 0) || is && !slices.Contains(best, wire) || !is && wire != 0 || e != api.OK {
		t.Errorf("Best of %v, %s, %t: %d, %t, %d, want one of %v", g.game, p, cutMoves, wire, is, e, best)
	}
}

func (g player) kind() string {
	start := strings.Repeat(".", len(g.Wires))
	switch {
	case g.wins(start, true):
		return "short"
	case !g.wins(start, false):
		return "cut"
	}
	return "first"
}

func (g player) checkKind(t *testing.T) {
	t.Helper()
	if kind, e := switches.Kind(g.game); kind != g.kind() || e != api.OK {
		t.Errorf("Kind of %v: %s, %d, want %s", g.game, kind, e, g.kind())
	}
}

func TestPlayOfAll(t *testing.T) {
	for _, g := range tiny() {
		one := newPlayer(g)
		one.checkKind(t)
		if g.N == 4 && len(g.Wires) > 3 && g.S == 2 {
			continue
		}
		for _, p := range texts(".+-", min(len(g.Wires), 4)) {
			one.check(t, p+strings.Repeat(".", len(g.Wires)-len(p)))
		}
	}
}

func TestPlay(t *testing.T) {
	pick := numbers(2)
	for _, g := range mixed() {
		one := newPlayer(g)
		one.checkKind(t)
		for _, least := range []int{0, 0, 3, 3} { // more wires are free
			var p []byte
			for range g.Wires {
				p = append(p, ".....+-"[least+pick(7-least)])
			}
			one.check(t, string(p))
		}
		one.check(t, strings.Repeat("+", len(g.Wires)))
		one.check(t, strings.Repeat("-", len(g.Wires)))
	}
	for _, g := range known() {
		one := newPlayer(g)
		one.checkKind(t)
		one.check(t, strings.Repeat(".", len(g.Wires)))
	}
}

func TestKindKnown(t *testing.T) {
	for name, want := range map[string]string{"none": "cut", "one": "first", "double": "short", "ten": "short", "series": "cut", "thick": "short", "ring": "first", "bridge": "first", "four": "short", "aside": "short", "five": "short", "long": "short", "seven": "cut"} {
		if kind, e := switches.Kind(known()[name]); kind != want || e != api.OK {
			t.Errorf("Kind of %s: %s, %d", name, kind, e)
		}
	}
}

func TestPlayKnown(t *testing.T) {
	for _, x := range []struct {
		name, p          string
		cut, short, join bool // who wins if Cut moves, if Short moves
	}{
		{"none", "", false, false, false}, {"one", ".", false, true, false}, {"one", "+", true, true, true}, {"one", "-", false, false, false},
		{"double", "..", true, true, false}, {"double", "-.", false, true, false}, {"double", "-+", true, true, true}, {"double", "--", false, false, false}, {"double", "+.", true, true, true},
		{"series", "..", false, false, false}, {"series", "+.", false, true, false}, {"series", "++", true, true, true}, {"series", "+-", false, false, false},
		{"thick", "....", true, true, false}, {"thick", "-...", false, true, false}, {"thick", "-+..", true, true, false}, {"thick", "-.-.", false, false, false},
		{"bridge", ".....", false, true, false}, {"bridge", "+..+.", true, true, true}, {"bridge", "-.-..", false, false, false}, {"bridge", "+-...", false, true, false}, {"bridge", "-+-.+", true, true, true},
	} {
		for _, cutMoves := range []bool{false, true} {
			want := x.short
			if cutMoves {
				want = x.cut
			}
			if won, e := switches.Wins(known()[x.name], x.p, cutMoves); won != want || e != api.OK {
				t.Errorf("Wins of %s, %s, %t: %t, %d", x.name, x.p, cutMoves, won, e)
			}
		}
		if is, e := switches.Joined(known()[x.name], x.p); is != x.join || e != api.OK {
			t.Errorf("Joined of %s, %s: %t, %d", x.name, x.p, is, e)
		}
	}
	for _, x := range []struct {
		name, p  string
		cutMoves bool
		want     []int // the wires that win
	}{
		{"none", "", true, nil}, {"none", "", false, nil}, {"one", ".", true, []int{0}}, {"one", ".", false, []int{0}}, {"one", "+", false, nil}, {"one", "-", true, nil},
		{"double", "..", true, nil}, {"double", "..", false, []int{0, 1}}, {"double", "-.", false, []int{1}}, {"double", "-.", true, []int{1}}, {"double", "+.", true, nil}, {"double", "+.", false, []int{1}},
		{"series", "+.", false, []int{1}}, {"series", "..", false, nil}, {"series", "..", true, []int{0, 1}}, {"series", "-.", true, []int{1}}, {"series", "-.", false, nil},
		{"thick", ".-..", false, []int{0}}, {"thick", ".-..", true, []int{0, 2, 3}}, {"thick", "..-+", false, []int{0, 1}}, {"thick", "..-+", true, nil},
	} {
		wire, is, e := switches.Best(known()[x.name], x.p, x.cutMoves)
		if is != (x.want != nil) || is && !slices.Contains(x.want, wire) || !is && wire != 0 || e != api.OK {
			t.Errorf("Best of %s, %s, %t: %d, %t, %d, want one of %v", x.name, x.p, x.cutMoves, wire, is, e, x.want)
		}
	}
}

// P8.6: to have the move is no harm.
func TestMoveIsNoHarm(t *testing.T) {
	pick := numbers(5)
	for _, g := range mixed() {
		var p []byte
		for range g.Wires {
			p = append(p, "....+-"[pick(6)])
		}
		cut, _ := switches.Wins(g, string(p), true)
		if short, _ := switches.Wins(g, string(p), false); cut && !short {
			t.Errorf("%v, %s: Short wins only if Cut is to move", g, p)
		}
	}
}

// Best against all that the other player does: who wins by Wins wins.
func TestBestWins(t *testing.T) {
	pick := numbers(3)
	for _, g := range mixed() {
		for _, cutIsBest := range []bool{false, true} {
			p := strings.Repeat(".", len(g.Wires))
			won, _ := switches.Wins(g, p, cutIsBest)
			if won == cutIsBest {
				continue
			}
			for cutMoves := cutIsBest; strings.Contains(p, "."); cutMoves = !cutMoves {
				taken := "+"
				if cutMoves {
					taken = "-"
				}
				wire, _, _ := switches.Best(g, p, cutMoves)
				if cutMoves != cutIsBest {
					for wire = pick(len(p)); p[wire] != '.'; wire = pick(len(p)) {
					}
				}
				p = replaced(p, wire, taken)
			}
			if is, _ := switches.Joined(g, p); is == cutIsBest {
				t.Errorf("%v: %s, Best for Cut: %t", g, p, cutIsBest)
			}
		}
	}
}
