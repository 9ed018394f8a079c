package sample

import (
	"iter"
	"slices"

	"rankmere/api"
)

// Bad yields lists that are no matrices over the field, with their errors: all
// kinds of them at all places, and what must not hide or precede an error.
func Bad() iter.Seq2[[][]int, api.Errno] {
	return func(yield func(m [][]int, want api.Errno) bool) {
		for _, kind := range []struct {
			matrices [][][]int
			want     api.Errno
		}{
			{empty(), api.ErrNone}, {large(), api.ErrFull}, {uneven(), api.ErrShape}, {outside(), api.ErrRange},
		} {
			for _, m := range kind.matrices {
				if !yield(m, kind.want) {
					return
				}
			}
		}
	}
}

// empty returns lists without a first element.
func empty() [][][]int {
	six := Filled(6, 1, 1)
	six[0] = nil
	return [][][]int{
		nil, {}, {nil}, {{}}, {nil, nil}, {{}, {}, {}}, {{}, {1}}, {nil, {1, 2}}, {{}, {-1}}, {{}, {9_973}, {1, 2, 3, 4, 5, 6}},
		// There is no element, whatever else there is too much of.
		six, Filled(6, 0, 0), Filled(1_000, 0, 0),
	}
}

// large returns matrices with too many rows or columns.
func large() [][][]int {
	l := [][][]int{Unit(6)}
	for _, n := range []int{0, 1, 9_972, -1, 9_973} {
		l = append(l, Filled(6, 6, n))
		for size := 1; size <= 5; size++ {
			for _, many := range []int{6, 7, 10, 100, 1_000} {
				// The number of elements comes before what they are, and before
				// the length of later rows.
				part := Filled(many, size, n)
				part[1] = nil
				l = append(l, Filled(size, many, n), Filled(many, size, n), part, append(Filled(1, many, n), []int{1}, nil))
			}
		}
	}
	return l
}

// uneven returns matrices with a row that is shorter or longer than the first.
func uneven() [][][]int {
	var l [][][]int
	for rows, columns := range Sizes() {
		for i := 1; i < rows; i++ {
			for length := range 12 {
				if length == columns {
					continue
				}
				m := Mixed(rows, columns, 3)
				m[i] = Mixed(1, length, 4)[0]
				l = append(l, m)
				// The length of a row comes before its elements, and also
				// before those of the rows behind it.
				m = Clone(m)
				m[i] = Filled(1, length, -1)[0]
				l = append(l, m)
				m = Clone(m)
				for k := i + 1; k < rows; k++ {
					m[k] = Filled(1, columns, 9_973)[0]
				}
				l = append(l, m)
			}
		}
	}
	return l
}

// outside returns matrices with an element that is none of the field.
func outside() [][][]int {
	var l [][][]int
	for _, n := range Outside() {
		l = append(l, Filled(5, 5, n))
		for rows, columns := range Sizes() {
			for i := range rows {
				for j := range columns {
					m := Mixed(rows, columns, 5)
					m[i][j] = n
					l = append(l, m, With(rows, columns, i, j, n))
				}
			}
		}
	}
	// An element comes before the length of a later row.
	for rows, columns := range Sizes() {
		for later := range rows {
			for i := range later {
				for j := range columns {
					for _, length := range []int{0, columns - 1, columns + 1} {
						m := Mixed(rows, columns, 6)
						m[i][j] = []int{-1, 9_973}[j%2]
						m[later] = slices.Repeat([]int{1}, length)
						l = append(l, m)
					}
				}
			}
		}
	}
	return l
}
