package emit

import (
	"math/bits"
	"slices"

	"warpbeam/api"
)

// field is the numbers modulo a prime. Determinants of times can have up to 92 bits, which is too much for an int; but a number with so few bits is known when it is known modulo two primes whose product has far more.
type field uint64

const (
	firstField  field = 1<<61 - 1
	secondField field = 1<<62 - 57
)

// isCombination reports whether a row is a sum of multiples, with fractions, of rows none of which is one of the others.
func isCombination(row []int, rows [][]int) bool {
	all := append(slices.Clone(rows), row)
	// A determinant that is not 0 can be so for one of the primes, but not for both.
	rank := max(firstField.rank(all), secondField.rank(all))
	return rank == len(rows)
}

// inverseOf is the inverse of a square matrix; false if its determinant is not 1 or -1. Numbers that no coefficient can be are replaced by another one that no coefficient can be.
func inverseOf(m [][]int) ([][]int, bool) {
	first, d := firstField.inverse(m)
	second, e := secondField.inverse(m)
	if d != e || size(d) != 1 {
		return nil, false
	}
	for i, row := range first {
		for j, n := range row {
			if n != second[i][j] || size(n) > api.MaxCoef {
				row[j] = api.MaxCoef + 1
			}
		}
	}
	return first, true
}

func (p field) rank(m [][]int) int {
	if len(m) == 0 {
		return 0
	}
	rank, _ := p.reduce(p.matrix(m), len(m[0]))
	return rank
}

// inverse is the inverse of a square matrix, and its determinant; it has none if this is 0.
func (p field) inverse(m [][]int) ([][]int, int) {
	n := len(m)
	both := p.matrix(m)
	for i, row := range both {
		both[i] = append(row, make([]uint64, n)...)
		both[i][n+i] = 1
	}
	rank, determinant := p.reduce(both, n)
	if rank < n {
		return nil, 0
	}
	var inverse [][]int
	for _, row := range both {
		var l []int
		for _, a := range row[n:] {
			l = append(l, p.number(a))
		}
		inverse = append(inverse, l)
	}
	return inverse, p.number(determinant)
}

// reduce turns some first columns into those of the matrix that leaves all as it is, as far as it can, and returns how many it could turn. If these are all, the determinant is that of these columns.
func (p field) reduce(m [][]uint64, columns int) (int, uint64) {
	rank, determinant := 0, uint64(1)
	for column := range columns {
		found := slices.IndexFunc(m[rank:], func(row []uint64) bool { return row[column] != 0 })
		if found < 0 {
			continue
		}
		if found > 0 {
			m[rank], m[rank+found] = m[rank+found], m[rank]
			determinant = p.minus(0, determinant)
		}
		determinant = p.times(determinant, m[rank][column])
		p.clear(m, rank, column)
		rank++
	}
	return rank, determinant
}

// clear turns a column into 1 in a row, and 0 in all others.
func (p field) clear(m [][]uint64, row, column int) {
	factor := p.power(m[row][column], uint64(p)-2)
	for j, a := range m[row] {
		m[row][j] = p.times(a, factor)
	}
	for i := range m {
		times := m[i][column]
		if i == row || times == 0 {
			continue
		}
		for j, a := range m[row] {
			m[i][j] = p.minus(m[i][j], p.times(times, a))
		}
	}
}

// matrix is a matrix modulo the prime.
func (p field) matrix(m [][]int) [][]uint64 {
	var l [][]uint64
	for _, row := range m {
		r := make([]uint64, len(row))
		for j, n := range row {
			r[j] = uint64(n)
			if n < 0 {
				r[j] = uint64(p) - uint64(-n)
			}
		}
		l = append(l, r)
	}
	return l
}

// number is the number nearest to 0 that is a modulo the prime.
func (p field) number(a uint64) int {
	if a > uint64(p)/2 {
		return -int(uint64(p) - a)
	}
	return int(a)
}

func (p field) minus(a, b uint64) uint64 {
	if a < b {
		a += uint64(p)
	}
	return a - b
}

func (p field) times(a, b uint64) uint64 {
	high, low := bits.Mul64(a, b)
	return bits.Rem64(high, low, uint64(p))
}

func (p field) power(a, n uint64) uint64 {
	power := uint64(1)
	for ; n > 0; n /= 2 {
		if n%2 == 1 {
			power = p.times(power, a)
		}
		a = p.times(a, a)
	}
	return power
}
