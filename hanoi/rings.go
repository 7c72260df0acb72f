package hanoi

import (
	"math/bits"

	"bibelot/api"
)

const maxRings = 60

// CheckRings tells whether the string tells for each ring whether it is on.
func CheckRings(r string) api.Errno {
	if len(r) < 1 || len(r) > maxRings {
		return api.ErrRings
	}
	for _, c := range r {
		if c != '0' && c != '1' {
			return api.ErrRings
		}
	}
	return api.OK
}

// checkRings tells whether all strings are rings, and then, whether they have as many.
func checkRings(all ...string) api.Errno {
	for _, r := range all {
		if e := CheckRings(r); e != api.OK {
			return e
		}
	}
	for _, r := range all {
		if len(r) != len(all[0]) {
			return api.ErrShape
		}
	}
	return api.OK
}

// ringsOn is the set of the rings that are on, the first ring being the lowest bit.
func ringsOn(r string) uint64 {
	on := uint64(0)
	for ring, c := range r {
		if c == '1' {
			on |= 1 << ring
		}
	}
	return on
}

// rankOf reads the rings as Gray's code, which is what the numbers of steps make of them: a bit of the rank is set if an odd number of rings from that one on are on.
func rankOf(on uint64) uint64 {
	rank := uint64(0)
	for ; on != 0; on >>= 1 {
		rank ^= on
	}
	return rank
}

// ringsOfRank is the set of the rings that are on at that rank.
func ringsOfRank(rank uint64) uint64 {
	return rank ^ rank>>1
}

// Steps returns the rings that can be changed, rising.
func Steps(r string) ([]int, api.Errno) {
	if e := checkRings(r); e != api.OK {
		return nil, e
	}
	rings := []int{0}
	// If no ring is on, this is far beyond the last one.
	if next := bits.TrailingZeros64(ringsOn(r)) + 1; next < len(r) {
		rings = append(rings, next)
	}
	return rings, api.OK
}

// Rank returns the number of steps of the shortest way to all rings off.
func Rank(r string) (int64, api.Errno) {
	if e := checkRings(r); e != api.OK {
		return 0, e
	}
	return int64(rankOf(ringsOn(r))), api.OK
}

// Unrank returns the n rings with that rank.
func Unrank(n int, rank int64) (string, api.Errno) {
	if n < 1 || n > maxRings || rank < 0 || rank >= 1<<n {
		return "", api.ErrArg
	}
	on := ringsOfRank(uint64(rank))
	rings := make([]byte, n)
	for ring := range rings {
		rings[ring] = '0' + byte(on>>ring&1)
	}
	return string(rings), api.OK
}

// Between returns the number of steps of the shortest way from r to q.
func Between(r, q string) (int64, api.Errno) {
	if e := checkRings(r, q); e != api.OK {
		return 0, e
	}
	from, to := rankOf(ringsOn(r)), rankOf(ringsOn(q))
	return int64(max(from, to) - min(from, to)), api.OK
}

// Next returns the ring that the shortest way from r to q changes first.
func Next(r, q string) (int, api.Errno) {
	if e := checkRings(r, q); e != api.OK {
		return 0, e
	}
	if r == q {
		return 0, api.ErrArg
	}
	from, to := rankOf(ringsOn(r)), rankOf(ringsOn(q))
	next := from + 1
	if from > to {
		next = from - 1
	}
	return bits.TrailingZeros64(ringsOfRank(from) ^ ringsOfRank(next)), api.OK
}
