package magic

import (
	"iter"
	"slices"

	"bibelot/api"
)

const (
	maxTable = 4 // the order of a table
	maxSum   = 20
)

// Tables returns the number of tables of order n with the sum r.
func Tables(n, r int) (int64, api.Errno) {
	if !isTable(n, r) {
		return 0, api.ErrArg
	}
	return tables(n, r, 0), api.OK
}

// Positive returns the number of those tables whose numbers are all greater than 0.
func Positive(n, r int) (int64, api.Errno) {
	if !isTable(n, r) {
		return 0, api.ErrArg
	}
	return tables(n, r, 1), api.OK
}

// Symmetric returns the number of those tables that are the same after rows and columns are exchanged.
func Symmetric(n, r int) (int64, api.Errno) {
	if !isTable(n, r) {
		return 0, api.ErrArg
	}
	return symmetric(n, r), api.OK
}

func isTable(n, r int) bool {
	return n >= 1 && n <= maxTable && r >= 0 && r <= maxSum
}

// row has the numbers of a row of a table, or what is left of the columns for the rows below it. Beyond the table's order they are 0.
type row [maxTable]int

// tables counts the tables whose numbers are no less than least.
func tables(n, r, least int) int64 {
	return counted(n, r, func(left []int) iter.Seq[row] {
		return rows(r, least, left...)
	})
}

// symmetric counts the symmetric tables. The next row is always that of the last column, which has the same numbers: its sum is what is left of that column. It takes its numbers from the other columns, and with them the last one is complete.
func symmetric(n, r int) int64 {
	return counted(n, r, func(left []int) iter.Seq[row] {
		last := n - 1
		return func(yield func(row) bool) {
			for numbers := range rows(left[last], 0, left...) {
				numbers[last] = left[last]
				if !yield(numbers) {
					return
				}
			}
		}
	})
}

// counted is in how many ways n rows, one after the other, take the sum r from each of n columns, if takes yields what the next row may take from what is left.
func counted(n, r int, takes func(left []int) iter.Seq[row]) int64 {
	var whole row
	for column := range n {
		whole[column] = r
	}
	ways := map[row]int64{whole: 1} // by what is left
	for range n {
		next := map[row]int64{}
		for left, number := range ways {
			for taken := range takes(left[:n]) {
				next[left.without(n, taken)] += number
			}
		}
		ways = next
	}
	return ways[row{}]
}

// without is what is left of the columns, rising: their order makes no difference to how many ways there are.
func (left row) without(n int, taken row) row {
	for column := range n {
		left[column] -= taken[column]
	}
	slices.Sort(left[:n])
	return left
}

// rows yields the rows with that sum whose numbers are no less than least and no greater than those of most.
func rows(sum, least int, most ...int) iter.Seq[row] {
	return func(yield func(row) bool) {
		var numbers row
		last := len(most) - 1
		// put chooses the numbers from that column on, and tells whether to go on.
		var put func(column, sum int) bool
		put = func(column, sum int) bool {
			if column == last {
				numbers[last] = sum
				return sum < least || sum > most[last] || yield(numbers)
			}
			for number := least; number <= min(sum, most[column]); number++ {
				numbers[column] = number
				if !put(column+1, sum-number) {
					return false
				}
			}
			return true
		}
		put(0, sum)
	}
}
