package sample

import (
	"iter"
	"math"
	"slices"
)

// Kind is what a chapter says of its matrices: how many rows and columns they
// have at most, and between which numbers their elements are.
type Kind struct{ Side, Least, Most int }

// ofField returns the kind of the matrices over the field.
func ofField() Kind {
	return Kind{Side: 5, Least: 0, Most: 9_972}
}

// Outside returns numbers that are no elements, those next to elements first.
func (k Kind) Outside() []int {
	return slices.DeleteFunc([]int{
		k.Least - 1, k.Most + 1, k.Least - 2, k.Most + 2, -k.Most, -k.Most - 1, -k.Most - 2, 2*k.Most + 1, 2*k.Most + 2,
		1<<8 + 5, -1 << 8, 9_972, 9_973, 9_978, -9_973, 1<<16 + 5, -1 << 16, 1_000_000, -1_000_000,
		1 << 32, 1<<32 + 5, -1 << 32, math.MaxInt, math.MinInt, math.MinInt + 1,
	}, k.has)
}

// Sizes yields all numbers of rows and columns that a matrix may have.
func (k Kind) Sizes() iter.Seq2[int, int] {
	return func(yield func(rows, columns int) bool) {
		for rows := 1; rows <= k.Side; rows++ {
			for columns := 1; columns <= k.Side; columns++ {
				if !yield(rows, columns) {
					return
				}
			}
		}
	}
}

// Mixed returns a matrix of elements that follow no plain rule; another seed
// makes another one.
func (k Kind) Mixed(rows, columns, seed int) [][]int {
	m := Filled(rows, columns, 0)
	state := uint32(seed)*2_654_435_761 + 12_345
	for _, row := range m {
		for j := range row {
			state = state*1_664_525 + 1_013_904_223
			row[j] = k.Least + int(state>>8)%(k.Most-k.Least+1)
		}
	}
	return m
}

// has tells whether a number is an element.
func (k Kind) has(n int) bool {
	return n >= k.Least && n <= k.Most
}
