package hanoi

import (
	"math"
	"slices"

	"bibelot/api"
)

const (
	maxPegs      = 8
	maxFrameWay  = 5000
	maxPositions = 70000
)

// frames are Frame's numbers, by pegs and then by discs.
type frames [maxPegs + 1][maxDiscs + 1]int64

func frameNumbers() frames {
	var numbers frames
	for n := range maxDiscs + 1 {
		numbers[usualPegs][n] = 1<<n - 1
	}
	for p := usualPegs + 1; p <= maxPegs; p++ {
		numbers[p][1] = 1
		for n := 2; n <= maxDiscs; n++ {
			least := int64(math.MaxInt64)
			for k := 1; k < n; k++ {
				least = min(least, numbers.apart(n, p, k))
			}
			numbers[p][n] = least
		}
	}
	return numbers
}

// apart is the number of moves for n discs and p pegs (more than three) if the k smallest ones are put on a peg of their own while the others move.
func (numbers *frames) apart(n, p, k int) int64 {
	return 2*numbers[p][k] + numbers[p-1][n-k]
}

// split is how many of n discs (two or more) are put on a peg of their own.
func (numbers *frames) split(n, p int) int {
	if p == usualPegs {
		return n - 1
	}
	k := 1
	for numbers.apart(n, p, k) != numbers[p][n] {
		k++
	}
	return k
}

func checkFrame(n, p int) api.Errno {
	if n < 0 || n > maxDiscs || p < usualPegs || p > maxPegs {
		return api.ErrArg
	}
	return api.OK
}

// Frame returns Frame's number for n discs and p pegs.
func Frame(n, p int) (int64, api.Errno) {
	if e := checkFrame(n, p); e != api.OK {
		return 0, e
	}
	numbers := frameNumbers()
	return numbers[p][n], api.OK
}

// FrameWay returns a way with as many moves as Frame's number from all discs on peg 0 to all on peg p - 1.
func FrameWay(n, p int) ([][2]int, api.Errno) {
	if e := checkFrame(n, p); e != api.OK {
		return nil, e
	}
	numbers := frameNumbers()
	if numbers[p][n] > maxFrameWay {
		return nil, api.ErrArg
	}
	return numbers.way(n, p), api.OK
}

func (numbers *frames) way(n, p int) [][2]int {
	var way [][2]int
	// carry moves discs that lie on each other, the smallest one of them being first. The spare pegs hold no disc that is smaller than one of these.
	var carry func(first, discs, from, to int, spare []int)
	carry = func(first, discs, from, to int, spare []int) {
		switch discs {
		case 0:
			return
		case 1:
			way = append(way, [2]int{first, to})
			return
		}
		k := numbers.split(discs, len(spare)+2)
		aside, rest := spare[0], spare[1:]
		carry(first, k, from, aside, append(slices.Clone(rest), to))
		carry(first+k, discs-k, from, to, rest)
		carry(first, k, aside, to, append(slices.Clone(rest), from))
	}
	var spare []int
	for peg := 1; peg < p-1; peg++ {
		spare = append(spare, peg)
	}
	carry(0, n, 0, p-1, spare)
	return way
}

// Fewest returns the least number of moves from all discs on peg 0 to all on peg p - 1.
func Fewest(n, p int) (int, api.Errno) {
	if e := checkFrame(n, p); e != api.OK {
		return 0, e
	}
	positions := 1
	for range n {
		positions *= p
		if positions > maxPositions {
			return 0, api.ErrArg
		}
	}
	return fewest(n, p), api.OK
}

// fewest searches by breadth.
func fewest(n, p int) int {
	var start, goal position
	for disc := range n {
		goal[disc] = int8(p - 1)
	}
	made := map[position]int{start: 0}
	queue := []position{start}
search:
	for i := 0; i < len(queue); i++ {
		at := queue[i]
		for move := range at.moves(n, p) {
			next := at.after(move)
			if _, known := made[next]; known {
				continue
			}
			made[next] = made[at] + 1
			if next == goal {
				break search
			}
			queue = append(queue, next)
		}
	}
	return made[goal]
}
