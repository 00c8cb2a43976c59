package schedule

import (
	"slices"

	"warpbeam/api"
)

const (
	maxRows  = 5     // of a matrix
	maxEntry = 1_000 // of a matrix, above or below 0
)

// Determinant is the determinant of a matrix.
func Determinant(m [][]int) (int, api.Errno) {
	if e := checkMatrix(m); e != api.OK {
		return 0, e
	}
	return determinant(m), api.OK
}

// Inverse is the inverse of a matrix.
func Inverse(m [][]int) ([][]int, api.Errno) {
	if e := checkMatrix(m); e != api.OK {
		return nil, e
	}
	d := determinant(m)
	if d != 1 && d != -1 {
		return nil, api.ErrState
	}
	inverse := identity(len(m))
	for i := range m {
		for j := range m {
			// A quotient by 1 or -1 is a product with it.
			inverse[i][j] = d * sign(i+j) * determinant(minor(m, j, i))
		}
	}
	if !areEntries(inverse) {
		return nil, api.ErrArg
	}
	return inverse, api.OK
}

// Skew is the matrix that adds a variable, some times, to another one.
func Skew(n, row, by, factor int) ([][]int, api.Errno) {
	isIndex := func(i int) bool { return 0 <= i && i < n }
	switch {
	case n < 1 || n > maxRows,
		!isIndex(row) || !isIndex(by),
		!areWithin([]int{factor}, maxEntry),
		row == by:
		return nil, api.ErrArg
	}
	m := identity(n)
	m[row][by] = factor
	return m, api.OK
}

// checkMatrix says what is wrong with a matrix.
func checkMatrix(m [][]int) api.Errno {
	if len(m) == 0 || len(m) > maxRows {
		return api.ErrForm
	}
	if slices.ContainsFunc(m, func(l []int) bool { return len(l) != len(m) }) {
		return api.ErrForm
	}
	if !areEntries(m) {
		return api.ErrArg
	}
	return api.OK
}

// areEntries reports whether all numbers can be those of a matrix.
func areEntries(m [][]int) bool {
	return !slices.ContainsFunc(m, func(l []int) bool { return !areWithin(l, maxEntry) })
}

// determinant is that of a matrix, which can have no rows. With so few rows all products fit into an int.
func determinant(m [][]int) int {
	if len(m) == 0 {
		return 1
	}
	sum := 0
	for j, n := range m[0] {
		if n != 0 {
			sum += sign(j) * n * determinant(minor(m, 0, j))
		}
	}
	return sum
}

// sign is 1 for even numbers, and -1 for odd ones.
func sign(n int) int { return 1 - n%2*2 }

// minor is a matrix without a row and a column.
func minor(m [][]int, row, column int) [][]int {
	var l [][]int
	for i, x := range m {
		if i != row {
			l = append(l, slices.Concat(x[:column], x[column+1:]))
		}
	}
	return l
}

// identity is the matrix that leaves all as it is.
func identity(n int) [][]int {
	m := make([][]int, n)
	for i := range m {
		m[i] = make([]int, n)
		m[i][i] = 1
	}
	return m
}
