package stall_test

import (
	"fmt"
	"strconv"
	"strings"
	"testing"

	"bibelot/stall"
)

// last is the last number of a reply.
func last(reply string) int {
	list := strings.Split(reply, " ")
	n, err := strconv.Atoi(list[len(list)-1])
	if err != nil {
		return -1000
	}
	return n
}

func TestSums(t *testing.T) {
	play(t, stall.New(), `
sums -> error 4
die z 3 -> ok
sums -> sums 3:1
die a 0 0 9 -> ok
sums -> sums 3:2 12:1
sell z -> ok
sums -> sums 0:2 9:1
sell a -> ok
sums -> error 4
die a 1 2 3 4 5 6 -> ok
die b 1 2 3 4 5 6 -> ok
sums -> sums 2:1 3:2 4:3 5:4 6:5 7:6 8:5 9:4 10:3 11:2 12:1
sell a -> ok
sell b -> ok
die a 0 60 -> ok
die b 0 60 -> ok
die c 0 60 -> ok
die d 0 60 -> ok
die e 0 60 -> ok
die f 0 60 -> ok
sums -> sums 0:1 60:6 120:15 180:20 240:15 300:6 360:1
sell f -> ok
die f 60 60 60 60 60 60 60 60 -> ok
sums -> sums 60:8 120:40 180:80 240:80 300:40 360:8
`)
}

func TestBeats(t *testing.T) {
	play(t, stall.New(), `
beats a b -> error 4
die a 2 4 9 -> ok
beats a b -> error 4
beats b a -> error 4
beats b b -> error 4
beats a a -> beats 3 3
die b 1 6 8 -> ok
beats a b -> beats 5 4
beats b a -> beats 4 5
beats b b -> beats 3 3
die c 9 -> ok
beats c a -> beats 2 0
beats a c -> beats 0 2
beats c c -> beats 0 0
die d 0 1 1 10 -> ok
beats d a -> beats 3 9
beats a d -> beats 9 3
beats a ab -> error 4
beats c e -> error 4
beats e c -> error 4
`)
}

func TestRing(t *testing.T) {
	play(t, stall.New(), `
ring -> ring no
die x 2 4 9 -> ok
ring -> ring no
die b 1 6 8 -> ok
ring -> ring no
die m 3 5 7 -> ok
ring -> ring yes
die a 0 -> ok
ring -> ring yes
die z 60 -> ok
ring -> ring yes
die n 3 5 7 -> ok
ring -> ring yes
sell m -> ok
ring -> ring yes
sell b -> ok
ring -> ring no
die b 3 5 7 -> ok
ring -> ring no
`)
	// Efron's dice: a, d, c make a ring, and so do all four
	play(t, stall.New(), `
die a 0 0 4 4 4 4 -> ok
die b 1 1 1 5 5 5 -> ok
die c 2 2 2 2 6 6 -> ok
ring -> ring no
die d 3 3 3 3 3 3 -> ok
ring -> ring yes
sell b -> ok
ring -> ring yes
die b 1 1 1 5 5 5 -> ok
sell a -> ok
ring -> ring no
`)
}

func TestPegs(t *testing.T) {
	play(t, stall.New(), `
pegs -> pegs 4
jump 2 1 0 -> ok
pegs -> pegs 4
jump 4 3 2 -> ok
pegs -> pegs 4
jump 6 5 4 -> ok
pegs -> pegs 4
`)
}

func TestTower(t *testing.T) {
	s := stall.New()
	way := []string{"0 1", "1 2", "0 2", "2 1", "0 0", "1 1", "0 1", "3 2", "0 2", "1 0", "0 0", "2 2", "0 1", "1 2", "0 2"}
	for i, move := range way {
		play(t, s, fmt.Sprintf("tower -> tower %d\ndisc %s -> ok", 15-i, move))
	}
	play(t, s, `
tower -> tower 0
disc 0 0 -> ok
tower -> tower 1
disc 0 1 -> ok
tower -> tower 1
disc 3 0 -> error 30
`)
}

func TestDark(t *testing.T) {
	// all lamps on: by five, and they go out by the same ones
	s := with(t, "press 0", "press 2", "press 4", "press 6", "press 8")
	play(t, s, `
dark -> dark 5
press 4 -> ok
dark -> dark 4
press 1 -> ok
dark -> dark 5
press 0 -> ok
press 2 -> ok
press 6 -> ok
press 8 -> ok
dark -> dark 1
press 1 -> ok
dark -> dark 0
`)
	// any set of lamps is the only one with its effect
	for set := range 1 << 9 {
		s := stall.New()
		n := 0
		for lamp := range 9 {
			if set>>lamp&1 == 1 {
				play(t, s, fmt.Sprintf("press %d -> ok", lamp))
				n++
			}
		}
		play(t, s, fmt.Sprintf("dark -> dark %d", n))
	}
}

func TestFill(t *testing.T) {
	for middle := 1; middle <= 9; middle++ {
		want := 0
		if middle == 5 {
			want = 8
		}
		play(t, stall.New(), fmt.Sprintf("write 1 1 %d -> ok\nfill -> fill %d", middle, want))
		corner := map[bool]int{true: 2, false: 0}[middle%2 == 0]
		play(t, stall.New(), fmt.Sprintf("write 0 2 %d -> ok\nfill -> fill %d", middle, corner))
		edge := map[bool]int{true: 2, false: 0}[middle%2 == 1 && middle != 5]
		play(t, stall.New(), fmt.Sprintf("write 2 1 %d -> ok\nfill -> fill %d", middle, edge))
	}
	play(t, stall.New(), `
write 0 0 2 -> ok
fill -> fill 2
write 0 1 7 -> ok
fill -> fill 1
write 0 2 4 -> ok
fill -> fill 0
write 0 2 6 -> ok
fill -> fill 1
`)
}

func TestCakes(t *testing.T) {
	play(t, stall.New(), `
cakes -> cakes 0
flip 5 -> ok
cakes -> cakes 1
flip 4 -> ok
cakes -> cakes 2
flip 3 -> ok
cakes -> cakes 3
flip 5 -> ok
cakes -> cakes 3
`)
	play(t, stall.New(), `
flip 2 -> ok
flip 3 -> ok
cakes -> cakes 2
flip 2 -> ok
cakes -> cakes 3
flip 4 -> ok
cakes -> cakes 4
flip 5 -> ok
cakes -> cakes 5
flip 4 -> ok
cakes -> cakes 4
`)
}

func TestKind(t *testing.T) {
	for lines, want := range map[string]string{
		"":        "cut",
		"0 3":     "first",
		"3 0":     "first",
		"0 3,3 0": "short",
		"1 2":     "cut",
		"1 2,2 1": "cut",
		"0 1,1 3": "cut",
		"0 1,2 3": "cut",
		"0 1,0 1": "cut", "3 2,2 3": "cut",
		"1 0,0 1,3 1,1 3":                 "short",
		"0 1,0 1,1 3":                     "first",
		"0 1,1 3,0 3":                     "first",
		"0 1,1 3,0 2,2 3":                 "cut",
		"0 1,1 3,0 2,2 3,1 2":             "first",
		"0 1,1 3,0 2,2 3,0 3":             "first",
		"0 1,1 2,2 3":                     "cut",
		"0 1,0 1,1 2,1 2,2 3,2 3":         "short",
		"2 3,0 1,1 2,0 1,2 3,1 2":         "short",
		"0 3,0 3,1 2,1 2,1 2,1 2,1 2,1 2": "short",
		"0 1,0 2,1 2,1 2,1 2,1 2,1 2,1 2": "cut",
	} {
		s := stall.New()
		for _, wire := range strings.Split(lines, ",") {
			if wire != "" {
				play(t, s, "wire "+wire+" -> ok")
			}
		}
		play(t, s, "kind -> kind "+want)
	}
}

func TestTaste(t *testing.T) {
	play(t, stall.New(), `
taste -> error 4
share -> error 4
see 1 2 0 2 -> ok
taste -> taste yes
share -> share 1 1
see 2 1 2 0 -> ok
taste -> taste no
share -> share 1 2
see 1 1 1 1 -> ok
taste -> taste no
share -> share 1 2
`)
	play(t, stall.New(), `
see 1 2 2 0 -> ok
see 2 1 0 2 -> ok
taste -> taste yes
share -> share 1 1
see 2 1 0 2 -> ok
taste -> taste yes
share -> share 1 1
`)
	play(t, stall.New(), `
see 1 2 0 3 -> ok
see 2 1 2 0 -> ok
taste -> taste no
share -> share 3 4
`)
	// a ring, but by no smaller share
	play(t, stall.New(), `
see 1 2 0 1 -> ok
see 1 1 1 0 -> ok
see 2 1 0 2 -> ok
taste -> taste no
share -> share 1 1
`)
	// prices and amounts are not to be exchanged
	play(t, stall.New(), `
see 1 2 3 4 -> ok
see 4 1 1 9 -> ok
taste -> taste yes
share -> share 1 1
`)
}
