// Package sample makes numbers and matrices for the tests of other packages, and
// looks at what happens to them.
//
// It uses none of the packages that it helps to test, and the numbers of the
// document instead of the constants.
package sample

import (
	"iter"
	"slices"
)

// Outside returns numbers that are no elements of the field, those next to its
// elements first.
func Outside() []int {
	return ofField().Outside()
}

// Sizes yields all numbers of rows and columns that a matrix over the field may
// have.
func Sizes() iter.Seq2[int, int] {
	return ofField().Sizes()
}

// All yields all matrices of this size that have only these elements.
func All(rows, columns int, elements ...int) iter.Seq[[][]int] {
	return func(yield func(m [][]int) bool) {
		count := 1
		for range rows * columns {
			count *= len(elements)
		}
		for number := range count {
			m := Filled(rows, columns, 0)
			for _, row := range m {
				for j := range row {
					row[j] = elements[number%len(elements)]
					number /= len(elements)
				}
			}
			if !yield(m) {
				return
			}
		}
	}
}

// Filled returns a matrix that has n everywhere.
func Filled(rows, columns, n int) [][]int {
	m := make([][]int, rows)
	for i := range m {
		m[i] = slices.Repeat([]int{n}, columns)
	}
	return m
}

// With returns a matrix of zeros but for one element.
func With(rows, columns, i, j, n int) [][]int {
	m := Filled(rows, columns, 0)
	m[i][j] = n
	return m
}

// Unit returns the identity matrix.
func Unit(n int) [][]int {
	m := Filled(n, n, 0)
	for i := range m {
		m[i][i] = 1
	}
	return m
}

// Mixed returns a matrix of elements of the field that follow no plain rule;
// another seed makes another one.
func Mixed(rows, columns, seed int) [][]int {
	return ofField().Mixed(rows, columns, seed)
}

// Numbers returns a list of elements of the field that follow no plain rule;
// another seed makes another one.
func Numbers(length, seed int) []int {
	return Mixed(1, length, seed)[0]
}

// Invertible returns a square matrix that has an inverse, as it is the product
// of matrices with no zero on the diagonal, and zeros above or below it.
func Invertible(n, seed int) [][]int {
	low, up := Mixed(n, n, seed), Mixed(n, n, seed+500)
	for i := range n {
		low[i][i] = 1 + low[i][i]%9_972
		up[i][i] = 1 + up[i][i]%9_972
		clear(low[i][i+1:])
		clear(up[i][:i])
	}
	return Mul(up, low)
}

// Mul returns the product of two matrices over the field.
func Mul(a, b [][]int) [][]int {
	return multiply(a, b, Element)
}

// IntMul returns the product of two matrices of integers.
func IntMul(a, b [][]int) [][]int {
	return multiply(a, b, asItIs)
}

// multiply returns the product of two matrices, whose elements are all reduced.
// Sums of few products need no more than an int before.
func multiply(a, b [][]int, reduced func(n int) int) [][]int {
	product := Filled(len(a), len(b[0]), 0)
	for i, row := range product {
		for j := range row {
			for k := range b {
				row[j] += a[i][k] * b[k][j]
			}
			row[j] = reduced(row[j])
		}
	}
	return product
}

// Element returns an integer as an element of the field.
func Element(n int) int {
	return (n%9_973 + 9_973) % 9_973
}

// asItIs returns an integer that is not to be reduced.
func asItIs(n int) int {
	return n
}

// Turned returns the transpose of a matrix.
func Turned(m [][]int) [][]int {
	l := Filled(len(m[0]), len(m), 0)
	for i, row := range m {
		for j, n := range row {
			l[j][i] = n
		}
	}
	return l
}

// Det returns the determinant of a square matrix over the field.
func Det(m [][]int) int {
	return expand(m, Element)
}

// IntDet returns the determinant of a square matrix of integers, which are so
// small that an int has room for it.
func IntDet(m [][]int) int {
	return expand(m, asItIs)
}

// expand returns the determinant of a square matrix, from those of the matrices
// without the first row and one column, all of them reduced.
func expand(m [][]int, reduced func(n int) int) int {
	if len(m) == 0 {
		return 1
	}
	sum := 0
	for j, n := range m[0] {
		// Larger matrices take far too long unless most elements are 0.
		if n != 0 {
			sum += (1 - j%2*2) * n * expand(Without(m, 0, j), reduced)
		}
	}
	return reduced(sum)
}

// Without returns a matrix without one row and one column.
func Without(m [][]int, i, j int) [][]int {
	var part [][]int
	for _, row := range slices.Concat(m[:i], m[i+1:]) {
		part = append(part, slices.Concat(row[:j], row[j+1:]))
	}
	return part
}

// Rank returns the rank of a matrix: the size of its largest part, made by
// leaving out rows and columns, whose determinant is not 0.
func Rank(m [][]int) int {
	if len(m) == 0 {
		return 0
	}
	for size := min(len(m), len(m[0])); size > 0; size-- {
		for _, rows := range Subsets(len(m), size) {
			for _, columns := range Subsets(len(m[0]), size) {
				if Det(Part(m, rows, columns)) != 0 {
					return size
				}
			}
		}
	}
	return 0
}

// Part returns the matrix of some rows and columns of m.
func Part(m [][]int, rows, columns []int) [][]int {
	l := Filled(len(rows), len(columns), 0)
	for i, row := range rows {
		for j, column := range columns {
			l[i][j] = m[row][column]
		}
	}
	return l
}

// Blocks returns a matrix with two square ones on its diagonal, zeros below them and
// a third one above them.
func Blocks(a, b, above [][]int) [][]int {
	var m [][]int
	for i, row := range a {
		m = append(m, slices.Concat(row, above[i]))
	}
	for _, row := range b {
		m = append(m, slices.Concat(make([]int, len(a)), row))
	}
	return m
}

// Subsets returns all lists of this many numbers below n in increasing order.
func Subsets(n, many int) [][]int {
	var l [][]int
	for set := range 1 << n {
		var numbers []int
		for k := range n {
			if set>>k&1 == 1 {
				numbers = append(numbers, k)
			}
		}
		if len(numbers) == many {
			l = append(l, numbers)
		}
	}
	return l
}

// Form returns a matrix in reduced row echelon form that has its pivots in these
// columns. Its other elements are taken from those of a matrix of the same size.
func Form(pivots []int, m [][]int) [][]int {
	l := Filled(len(m), len(m[0]), 0)
	for i, pivot := range pivots {
		for j := pivot + 1; j < len(m[0]); j++ {
			if !slices.Contains(pivots, j) {
				l[i][j] = m[i][j]
			}
		}
		l[i][pivot] = 1
	}
	return l
}

// Orders returns all orders of the rows of m.
func Orders(m [][]int) [][][]int {
	if len(m) == 0 {
		return [][][]int{nil}
	}
	var l [][][]int
	for i, row := range m {
		for _, rest := range Orders(slices.Concat(m[:i], m[i+1:])) {
			l = append(l, append([][]int{row}, rest...))
		}
	}
	return l
}

// Same tells whether two matrices are equal.
func Same(a, b [][]int) bool {
	return slices.EqualFunc(a, b, slices.Equal)
}

// Clone returns a copy in new memory.
func Clone(m [][]int) [][]int {
	l := make([][]int, len(m))
	for i, row := range m {
		l[i] = slices.Clone(row)
	}
	return l
}

// Spacious returns a copy that has spare capacity behind all rows and behind the
// last one, with numbers in it that are no elements.
func Spacious(m [][]int) [][]int {
	l := make([][]int, len(m), len(m)+2)
	for i, row := range m {
		l[i] = append(slices.Clone(row), -71, -72)[:len(row)]
	}
	l[:cap(l)][len(m)] = []int{-73}
	return l
}

// Whole returns a copy of all that a matrix refers to, with spare capacity.
func Whole(m [][]int) [][]int {
	l := Clone(m[:cap(m)])
	for i, row := range m[:cap(m)] {
		l[i] = slices.Clone(row[:cap(row)])
	}
	return l
}

// Spoil overwrites all rows and all spare capacity, and tells whether no two
// rows share memory.
func Spoil(m [][]int) bool {
	for i, row := range m {
		row = row[:cap(row)]
		for j := range row {
			row[j] = -100 - i
		}
	}
	alone := true
	for i, row := range m {
		for _, n := range row[:cap(row)] {
			alone = alone && n == -100-i
		}
	}
	clear(m[:cap(m)])
	return alone
}
