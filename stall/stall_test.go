package stall_test

import (
	"fmt"
	"slices"
	"strings"
	"testing"

	"bibelot/stall"
)

// questions are all questions that need no names.
var questions = []string{"sums", "ring", "pegs", "tower", "dark", "fill", "cakes", "kind", "taste", "share"}

// play gives lines to a stall, each followed by -> and the reply that it must have.
func play(t *testing.T, s *stall.Stall, text string) {
	t.Helper()
	for _, l := range strings.Split(strings.Trim(text, "\n"), "\n") {
		line, want, _ := strings.Cut(l, " -> ")
		if got := s.Do(line); got != want {
			t.Errorf("%s: %q, want %q", line, got, want)
		}
	}
}

// with is a stall to which these lines are given; all of them must be ok.
func with(t *testing.T, lines ...string) *stall.Stall {
	t.Helper()
	s := stall.New()
	for _, line := range lines {
		if got := s.Do(line); got != "ok" {
			t.Errorf("%s: %q, want ok", line, got)
		}
	}
	return s
}

// again is a new stall that is given the lines of a book.
func again(t *testing.T, book string) *stall.Stall {
	t.Helper()
	return with(t, strings.Split(book, "\n")[:strings.Count(book, "\n")]...)
}

// look is all that can be asked of a stall without changing it.
func look(s *stall.Stall) string {
	names := s.Dice()
	parts := []string{s.Book(), fmt.Sprint(names, s.Stack())}
	for _, q := range questions {
		parts = append(parts, s.Do(q))
	}
	for _, a := range names {
		for _, b := range names {
			parts = append(parts, s.Do("beats "+a+" "+b))
		}
	}
	return strings.Join(parts, "\n")
}

func wantLook(t *testing.T, what string, s *stall.Stall, want string) {
	t.Helper()
	if got := look(s); got != want {
		t.Errorf("%s: %q, want %q", what, got, want)
	}
}

func TestExamples(t *testing.T) {
	play(t, stall.New(), `
die a 2 4 9 -> ok
die b 1 6 8 -> ok
die c 3 5 7 -> ok
beats a b -> beats 5 4
ring -> ring yes
sell c -> ok
ring -> ring no
`)
	play(t, stall.New(), `
jump 2 1 0 -> ok
jump 2 1 0 -> error 21
tower -> tower 15
press 4 -> ok
dark -> dark 1
`)
	play(t, stall.New(), `
fill -> fill 8
write 1 1 5 -> ok
fill -> fill 8
flip 3 -> ok
cakes -> cakes 1
kind -> kind cut
wire 3 0 -> ok
wire 0 3 -> ok
kind -> kind short
`)
}

func TestNew(t *testing.T) {
	s := stall.New()
	play(t, s, `
sums -> error 4
beats a a -> error 4
ring -> ring no
pegs -> pegs 4
tower -> tower 15
dark -> dark 0
fill -> fill 8
cakes -> cakes 0
kind -> kind cut
taste -> error 4
share -> error 4
`)
	if s.Book() != "" || len(s.Dice()) > 0 || !slices.Equal(s.Stack(), []int{1, 2, 3, 4, 5}) {
		t.Errorf("a new stall: %q, %v, %v", s.Book(), s.Dice(), s.Stack())
	}
	with(t, "die a 1", "flip 5", "press 0", "jump 2 1 0", "disc 0 1", "write 0 0 1", "wire 0 3", "see 1 1 1 1")
	wantLook(t, "a stall beside another one", s, look(stall.New()))
}

func TestNil(t *testing.T) {
	var none *stall.Stall
	long := strings.Repeat("a", 513)
	for _, line := range []string{"", "#", "# a note", "sums", "ring", "beats a b", "die a 1", "sell a", "flip 2", "see 1 1 1 1", "what", " ", "\n", "a\nb", long, "#" + long} {
		if got := none.Do(line); got != "error 3" {
			t.Errorf("%q said to nil: %q", line, got)
		}
	}
	if none.Book() != "" || len(none.Dice()) > 0 || len(none.Stack()) > 0 || none.Fork() != nil {
		t.Errorf("of nil: %q, %v, %v, %v", none.Book(), none.Dice(), none.Stack(), none.Fork())
	}
}

// all are lines of all commands, all of which are ok, one after the other.
var all = []string{"die b 1 6 8", "die a 2 4 9", "die zz 0", "die c 3 5 7", "sell zz", "jump 2 1 0", "jump 4 3 2", "disc 0 1", "disc 1 2", "press 4", "press 0", "press 4", "write 1 1 5", "write 0 0 8", "write 0 0 0", "flip 3", "flip 5", "wire 3 0", "wire 0 1", "see 1 2 0 2", "see 2 1 2 0"}

func TestBook(t *testing.T) {
	s := stall.New()
	want := ""
	for _, line := range all {
		for _, other := range append([]string{"", "# a note", "what", "die b 2 1", "sell d", "jump 0 1 2", "disc 3 0", "press 9", "write 2 2 10", "flip 1", "wire 2 2", "see 1 1 0 0", strings.Repeat("#", 513), "flip 2\n", "flip 2 "}, questions...) {
			if got := s.Do(other); got == "ok" {
				t.Errorf("%s: ok", other)
			}
		}
		if got := s.Do(line); got != "ok" {
			t.Errorf("%s: %s", line, got)
		}
		want += line + "\n"
		if got := s.Book(); got != want {
			t.Errorf("Book behind %s: %q, want %q", line, got, want)
		}
	}
}

func TestDice(t *testing.T) {
	s := stall.New()
	want := []string{}
	for _, name := range []string{"m", "b", "ab", "a", "aaaaaaaaaaaa", "aa"} {
		if got := s.Do("die " + name + " 1 2"); got != "ok" {
			t.Errorf("die %s: %s", name, got)
		}
		want = append(want, name)
		slices.Sort(want)
		if got := s.Dice(); !slices.Equal(got, want) {
			t.Errorf("Dice: %v, want %v", got, want)
		}
	}
	play(t, s, "sell aa -> ok\nsell m -> ok\ndie aa 61 -> error 10")
	if got := fmt.Sprint(s.Dice()); got != "[a aaaaaaaaaaaa ab b]" {
		t.Errorf("Dice: %s", got)
	}
}

func TestStack(t *testing.T) {
	s := stall.New()
	for _, x := range []struct {
		flip int
		want string
	}{{5, "[5 4 3 2 1]"}, {2, "[4 5 3 2 1]"}, {3, "[3 5 4 2 1]"}, {4, "[2 4 5 3 1]"}, {4, "[3 5 4 2 1]"}, {5, "[1 2 4 5 3]"}} {
		if got := s.Do(fmt.Sprint("flip ", x.flip)); got != "ok" || fmt.Sprint(s.Stack()) != x.want {
			t.Errorf("flip %d: %s, %v, want %s", x.flip, got, s.Stack(), x.want)
		}
	}
}

// What is returned is not what the stall keeps.
func TestResultsAreNew(t *testing.T) {
	s := with(t, all...)
	want := look(s)
	for range 2 {
		stack, names := s.Stack(), s.Dice()
		for i := range stack {
			stack[i] = 7
		}
		for i := range names {
			names[i] = "x"
		}
		_, _ = append(stack, 6), append(names, "y")
		wantLook(t, "what was returned is changed", s, want)
	}
}

func TestFork(t *testing.T) {
	for n := range len(all) + 1 {
		s := with(t, all[:n]...)
		before := look(s)
		fork := s.Fork()
		wantLook(t, "a fork", fork, before)
		one := []string{"die d 1 1", "flip 2", "wire 1 2", "see 3 1 1 2", "press 8", "write 2 1 1", "disc 0 0", "disc 0 2", "jump 1 2 3", "jump 5 4 3", "sell a", "die a 7"}
		other := []string{"die d 60", "die e 2 3", "flip 4", "wire 2 3", "see 1 3 2 1", "press 7", "write 0 1 3", "disc 0 2", "disc 0 0", "jump 6 5 4", "jump 3 2 1", "sell b", "die b 9", "sell c"}
		for i := range max(len(one), len(other)) {
			if i < len(one) {
				s.Do(one[i])
			}
			if i < len(other) {
				fork.Do(other[i])
			}
		}
		want, alone := with(t, all[:n]...), with(t, all[:n]...)
		for _, line := range one {
			want.Do(line)
		}
		for _, line := range other {
			alone.Do(line)
		}
		wantLook(t, "a stall with a fork", s, look(want))
		wantLook(t, "a fork that goes on", fork, look(alone))
		if look(s) == before || look(fork) == before || look(s) == look(fork) {
			t.Errorf("nothing has changed: %q, %q", look(s), look(fork))
		}
	}
}

// Of one stall there may be many forks, and forks of forks; each goes its own way.
func TestForks(t *testing.T) {
	s := with(t, "wire 0 1", "wire 1 3", "wire 0 2", "see 1 2 0 2", "see 1 1 1 1", "see 1 1 2 1")
	tries := []string{"wire 0 1", "wire 1 2", "wire 2 3", "see 2 1 2 0", "see 3 3 1 1", "flip 2", "flip 3", "die a 1", "die b 2", "press 1", "disc 0 1", "jump 2 1 0", "write 2 2 6"}
	var forks []*stall.Stall
	for _, line := range tries {
		fork := s.Fork()
		play(t, fork, line+" -> ok")
		next := fork.Fork()
		play(t, next, line+" -> "+again(t, fork.Book()).Do(line))
		forks = append(forks, fork, next)
	}
	for i, fork := range forks {
		wantLook(t, fmt.Sprint("fork ", i), fork, look(again(t, fork.Book())))
	}
	wantLook(t, "the stall of the forks", s, look(again(t, s.Book())))
}

// P10.4: the lines of the book, done again, lead to the same stall.
func TestBookIsStall(t *testing.T) {
	for n := range len(all) + 1 {
		s := with(t, all[:n]...)
		wantLook(t, fmt.Sprint("the book of ", n), again(t, s.Book()), look(s))
	}
}

// P10.5: questions and refused lines change nothing.
func TestRefusedChangesNothing(t *testing.T) {
	lines := append([]string{"", "#", "what", "flip 2 3", "flip  2", "die b 1", "die a 9 9", "die n 2 1", "die n 61", "die n", "sell n", "sell", "jump 0 1 2", "jump 1 2 4", "jump 3 4 6", "disc 3 1", "disc 2 2", "disc 4 0", "disc 1 3", "press -1", "press 9", "write 3 0 4", "write 0 -1 4", "write 0 0 10", "write 0 0 5", "write 0 0 -1", "flip 0", "flip 1", "flip 6", "wire 0 0", "wire 0 4", "wire -1 2", "see 0 1 1 1", "see 21 1 1 1", "see 1 1 0 0", "see 1 1 21 0", "see 1 1 1 -1", "beats a b", "beats a n", "flip 2\n", strings.Repeat("a", 600)}, questions...)
	for n := 13; n <= len(all); n++ {
		s := with(t, all[:n]...)
		want := look(s)
		for _, line := range lines {
			if got := s.Do(line); got == "ok" {
				t.Errorf("%s: ok", line)
			}
			wantLook(t, "behind "+line, s, want)
		}
	}
	full := with(t, "die a 1", "die b 1", "die c 1", "die d 1", "die e 1", "die f 1", "wire 0 3", "wire 0 3", "wire 0 3", "wire 0 3", "wire 0 3", "wire 0 3", "wire 0 3", "wire 0 3", "see 1 1 1 1", "see 1 1 1 1", "see 1 1 1 1", "see 1 1 1 1", "see 1 1 1 1")
	want := look(full)
	for _, line := range []string{"die g 1 2", "wire 1 2", "see 1 2 2 1"} {
		if got := full.Do(line); got != "error 7" {
			t.Errorf("%s: %s", line, got)
		}
		wantLook(t, "behind "+line, full, want)
	}
}
