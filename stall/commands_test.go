package stall_test

import (
	"fmt"
	"testing"

	"bibelot/stall"
)

func TestDie(t *testing.T) {
	play(t, stall.New(), `
die a 0 -> ok
die b 60 60 60 60 60 60 60 60 -> ok
die c 0 1 1 2 3 5 8 13 -> ok
die a 1 -> error 5
die a 2 1 -> error 5
die d -> error 100
die d 1 2 3 4 5 6 7 8 9 -> error 100
die d 9 8 7 6 5 4 3 2 1 -> error 100
die a 1 2 3 4 5 6 7 8 9 -> error 100
die d 2 1 -> error 10
die d 1 2 3 4 5 6 8 7 -> error 10
die d 61 -> error 10
die d 0 61 -> error 10
die d -1 -> error 10
die d -1 0 -> error 10
die d 1000000 -> error 10
die d -1000000 -> error 10
sums -> sums 60:8 61:16 62:8 63:8 65:8 68:8 73:8
die d 4 -> ok
die e 1 2 -> ok
die f 7 7 -> ok
die g 1 -> error 7
die g 2 1 -> error 7
die g 61 -> error 7
die f 1 -> error 5
die f 2 1 -> error 5
sell f -> ok
die g 2 1 -> error 10
die f 2 1 -> error 10
die f 3 -> ok
die g 1 -> error 7
`)
}

func TestSell(t *testing.T) {
	s := stall.New()
	play(t, s, `
sell a -> error 4
die a 1 3 -> ok
die b 2 2 -> ok
sell c -> error 4
sell ab -> error 4
sell a -> ok
sell a -> error 4
beats a b -> error 4
sums -> sums 2:2
die a 5 -> ok
beats a b -> beats 2 0
sell b -> ok
sell a -> ok
sums -> error 4
ring -> ring no
`)
	if len(s.Dice()) > 0 {
		t.Errorf("all dice are sold: %v", s.Dice())
	}
}

func TestJump(t *testing.T) {
	play(t, stall.New(), `
jump 0 1 2 -> error 21
jump 1 2 3 -> error 21
jump 2 1 0 -> ok
jump 2 1 0 -> error 21
jump 0 1 2 -> error 21
jump 4 3 2 -> ok
jump 5 4 3 -> error 21
jump 0 2 4 -> error 21
jump 0 2 1 -> error 21
jump 2 0 1 -> error 21
jump 5 5 4 -> error 21
jump 5 2 1 -> error 21
jump 6 5 3 -> error 21
jump -1 0 1 -> error 21
jump 1 0 -1 -> error 21
jump 8 7 6 -> error 21
jump 6 7 8 -> error 21
jump 7 8 9 -> error 21
jump 70 69 68 -> error 21
jump 66 65 64 -> error 21
jump 1000000 999999 999998 -> error 21
jump -1000000 -999999 -999998 -> error 21
jump 2 3 4 -> error 21
jump 7 6 5 -> error 21
jump 6 5 4 -> ok
jump 4 2 0 -> error 21
jump 4 5 6 -> error 21
jump 7 6 5 -> error 21
pegs -> pegs 4
`)
	// of the jumps of all lines, in both directions, only one can be made each time
	way := []string{"jump 2 1 0", "jump 4 3 2", "jump 6 5 4"}
	for n := range len(way) + 1 {
		s := with(t, way[:n]...)
		for i := range 6 {
			for _, line := range []string{fmt.Sprintf("jump %d %d %d", i, i+1, i+2), fmt.Sprintf("jump %d %d %d", i+2, i+1, i)} {
				want := "error 21"
				if n < len(way) && line == way[n] {
					want = "ok"
				}
				if got := s.Fork().Do(line); got != want {
					t.Errorf("%s behind %v: %s, want %s", line, way[:n], got, want)
				}
			}
		}
	}
}

func TestDisc(t *testing.T) {
	play(t, stall.New(), `
disc 0 0 -> error 30
disc 1 1 -> error 30
disc 3 2 -> error 30
disc 0 3 -> error 30
disc 0 -1 -> error 30
disc -1 1 -> error 30
disc 4 1 -> error 30
disc 5 1 -> error 30
disc 1000000 1 -> error 30
disc 0 1000000 -> error 30
disc -1000000 -1000000 -> error 30
tower -> tower 15
disc 0 1 -> ok
tower -> tower 14
disc 0 1 -> error 30
disc 1 1 -> error 30
disc 2 2 -> error 30
disc 1 2 -> ok
tower -> tower 13
disc 2 1 -> error 30
disc 0 2 -> ok
disc 2 1 -> ok
disc 3 2 -> error 30
disc 3 1 -> error 30
disc 0 0 -> ok
disc 1 1 -> ok
disc 0 1 -> ok
tower -> tower 8
disc 3 2 -> ok
tower -> tower 7
disc 3 0 -> ok
tower -> tower 8
`)
}

func TestPress(t *testing.T) {
	play(t, stall.New(), `
press -1 -> error 1
press 9 -> error 1
press 64 -> error 1
press -1000000 -> error 1
press 1000000 -> error 1
dark -> dark 0
press 0 -> ok
dark -> dark 1
press 8 -> ok
dark -> dark 2
press 1 -> ok
press 3 -> ok
press 4 -> ok
press 2 -> ok
press 5 -> ok
press 6 -> ok
press 7 -> ok
dark -> dark 9
press 9 -> error 1
dark -> dark 9
press 4 -> ok
dark -> dark 8
`)
}

func TestWrite(t *testing.T) {
	play(t, stall.New(), `
write 0 0 9 -> ok
write 0 0 9 -> ok
write 0 1 9 -> error 50
write 2 2 9 -> error 50
write 0 0 1 -> ok
write 0 1 9 -> ok
write 0 1 1 -> error 50
write 0 0 10 -> error 50
write 2 2 10 -> error 50
write 2 2 -1 -> error 50
write 2 2 -1000000 -> error 50
write 2 2 1000000 -> error 50
write 3 0 1 -> error 1
write 0 3 1 -> error 1
write 3 3 3 -> error 1
write -1 0 2 -> error 1
write 0 -1 2 -> error 1
write 3 0 10 -> error 1
write 0 -1 10 -> error 1
write -1 0 -1 -> error 1
write 3 0 0 -> error 1
write 1000000 0 0 -> error 1
write 0 -1000000 0 -> error 1
fill -> fill 0
write 0 0 0 -> ok
write 0 0 0 -> ok
fill -> fill 2
write 0 1 0 -> ok
fill -> fill 8
write 2 2 0 -> ok
write 2 2 9 -> ok
write 1 2 9 -> error 50
write 2 2 0 -> ok
write 1 2 9 -> ok
fill -> fill 2
`)
	full := with(t, "write 0 0 2", "write 0 1 7", "write 0 2 6", "write 1 0 9", "write 1 1 5", "write 1 2 1", "write 2 0 4", "write 2 1 3", "write 2 2 8")
	play(t, full, `
fill -> fill 1
write 2 2 7 -> error 50
write 2 2 8 -> ok
fill -> fill 1
write 2 2 0 -> ok
fill -> fill 1
write 0 0 0 -> ok
write 0 0 8 -> ok
fill -> fill 0
write 2 2 2 -> ok
fill -> fill 0
`)
}

func TestFlip(t *testing.T) {
	s := stall.New()
	play(t, s, `
flip 0 -> error 1
flip 1 -> error 1
flip -1 -> error 1
flip -2 -> error 1
flip 6 -> error 1
flip 7 -> error 1
flip 1000000 -> error 1
flip -1000000 -> error 1
cakes -> cakes 0
flip 2 -> ok
cakes -> cakes 1
flip 1 -> error 1
flip 5 -> ok
cakes -> cakes 2
flip 3 -> ok
flip 4 -> ok
`)
	if got := fmt.Sprint(s.Stack()); got != "[1 5 4 3 2]" {
		t.Errorf("Stack: %s", got)
	}
}

func TestWire(t *testing.T) {
	play(t, stall.New(), `
wire 0 0 -> error 1
wire 3 3 -> error 1
wire 0 4 -> error 1
wire 4 0 -> error 1
wire -1 0 -> error 1
wire 0 -1 -> error 1
wire 4 4 -> error 1
wire -1 4 -> error 1
wire 1000000 0 -> error 1
wire 0 -1000000 -> error 1
kind -> kind cut
wire 3 1 -> ok
wire 2 1 -> ok
wire 0 2 -> ok
wire 1 3 -> ok
wire 3 2 -> ok
wire 0 2 -> ok
kind -> kind short
wire 1 0 -> ok
wire 0 1 -> ok
wire 0 1 -> error 7
wire 3 0 -> error 7
wire 0 0 -> error 1
wire 0 4 -> error 1
wire -1 0 -> error 1
kind -> kind short
`)
}

func TestSee(t *testing.T) {
	play(t, stall.New(), `
see 0 1 1 1 -> error 90
see 1 0 1 1 -> error 90
see -1 1 1 1 -> error 90
see 21 1 1 1 -> error 90
see 1 21 1 1 -> error 90
see 1 1 21 1 -> error 90
see 1 1 1 21 -> error 90
see 1 1 -1 1 -> error 90
see 1 1 1 -1 -> error 90
see 1 1 0 0 -> error 90
see 20 20 0 0 -> error 90
see 1000000 -1000000 1 1 -> error 90
taste -> error 4
share -> error 4
see 20 20 20 20 -> ok
see 1 1 1 0 -> ok
see 1 1 0 1 -> ok
see 1 20 0 20 -> ok
see 1 1 0 0 -> error 90
see 20 1 20 0 -> ok
see 1 1 1 1 -> error 7
see 1 1 0 0 -> error 7
see 0 0 0 0 -> error 7
see 1 1 21 1 -> error 7
taste -> taste no
share -> share 1 20
`)
}

// P10.6: two flips of K, and two times the same lamp, lead back; a flip and a disc change little.
func TestSmallChanges(t *testing.T) {
	pick := numbers(6)
	s := stall.New()
	for range 300 {
		disc := fmt.Sprintf("disc %d %d", pick(4), pick(3))
		tower := s.Do("tower")
		reply := s.Do(disc)
		if d := last(s.Do("tower")) - last(tower); d < -1 || d > 1 || reply != "ok" && d != 0 {
			t.Errorf("%s: %s, then %s", disc, tower, s.Do("tower"))
		}
		flip := fmt.Sprint("flip ", 2+pick(4))
		cakes := s.Do("cakes")
		play(t, s, flip+" -> ok")
		if d := last(s.Do("cakes")) - last(cakes); d < -1 || d > 1 {
			t.Errorf("%s: %s, then %s", flip, cakes, s.Do("cakes"))
		}
		lamp := fmt.Sprint("press ", pick(9))
		play(t, s, lamp+" -> ok")
		stack, dark := fmt.Sprint(s.Stack()), s.Do("dark")
		for k := 2; k <= 5; k++ {
			both := fmt.Sprintf("flip %d -> ok\nflip %d -> ok\ncakes -> %s", k, k, s.Do("cakes"))
			if play(t, s, both); fmt.Sprint(s.Stack()) != stack {
				t.Errorf("two flips of %d: %v, want %s", k, s.Stack(), stack)
			}
		}
		for l := range 9 {
			play(t, s, fmt.Sprintf("press %d -> ok\npress %d -> ok\ndark -> %s", l, l, dark))
		}
	}
}
