package magic

import (
	"bibelot/api"
)

// Make returns a magic square of order n.
func Make(n int) ([][]int, api.Errno) {
	if n < 1 || n > maxOrder {
		return nil, api.ErrArg
	}
	switch n {
	case 2:
		return nil, api.ErrNone
	case 3:
		return [][]int{{2, 7, 6}, {9, 5, 1}, {4, 3, 8}}, api.OK
	case 6:
		return orderSix(), api.OK
	}
	return pandiagonal(n).list(), api.OK
}

// MakePandiagonal returns a pandiagonal square of order n.
func MakePandiagonal(n int) ([][]int, api.Errno) {
	if n < 1 || n > maxOrder {
		return nil, api.ErrArg
	}
	if n == 2 || n == 3 || n == 6 {
		return nil, api.ErrNone
	}
	return pandiagonal(n).list(), api.OK
}

func orderSix() [][]int {
	return [][]int{
		{6, 32, 3, 34, 35, 1},
		{7, 11, 27, 28, 8, 30},
		{19, 14, 16, 15, 23, 24},
		{18, 20, 22, 21, 17, 13},
		{25, 29, 10, 9, 26, 12},
		{36, 5, 33, 4, 2, 31},
	}
}

// pandiagonal is a pandiagonal square of an order that is divisible by 4 or neither by 2 nor by 3.
func pandiagonal(n int) square {
	if n%4 == 0 {
		return folded(n)
	}
	// Along all lines and broken diagonals, row + 2 column and 2 row + column change by 1, 2 or 3 from place to place (or by that less), so modulo n each takes all values.
	return made(n, func(row, column int) int {
		return n*((row+2*column)%n) + (2*row+column)%n + 1
	})
}

// folded has the rows and the columns of an associated magic square, those of the second half in the opposite order. So the places half the order down and to the right of one another were opposite: they add up to n^2 + 1, and each broken diagonal is made of such pairs.
func folded(n int) square {
	s := associated(n)
	from := func(i int) int {
		if i < n/2 {
			return i
		}
		return n - 1 - (i - n/2)
	}
	return made(n, func(row, column int) int {
		return s.grid[from(row)][from(column)]
	})
}

// associated is an associated magic square of an order that is divisible by 4: the numbers one after the other, with the opposite ones on the diagonals of each part of order 4.
func associated(n int) square {
	return made(n, func(row, column int) int {
		number := n*row + column + 1
		if row%4 == column%4 || row%4+column%4 == 3 {
			return n*n + 1 - number
		}
		return number
	})
}

// Opposite returns the square with n^2 + 1 less each number.
func Opposite(s [][]int) ([][]int, api.Errno) {
	squares, e := squaresOf(s)
	if e != api.OK {
		return nil, e
	}
	if !all(squares, square.isNormal) {
		return nil, api.ErrArg
	}
	return squares[0].opposite().list(), api.OK
}

// Compose returns the square that has b in each place of a, with the numbers that follow from the one there.
func Compose(a, b [][]int) ([][]int, api.Errno) {
	squares, e := squaresOf(a, b)
	if e != api.OK {
		return nil, e
	}
	if !all(squares, square.isNormal) || len(a)*len(b) > maxOrder {
		return nil, api.ErrArg
	}
	n := len(b)
	return made(len(a)*n, func(row, column int) int {
		return n*n*(a[row/n][column/n]-1) + b[row%n][column%n]
	}).list(), api.OK
}
