package sample

import (
	"iter"
	"slices"

	"rankmere/api"
)

// Bad yields lists that are no matrices over the field, with their errors.
func Bad() iter.Seq2[[][]int, api.Errno] {
	return ofField().Bad()
}

// Bad yields lists that are no matrices of a kind, square or not, with their
// errors: all kinds of them at all places, and what must not hide or precede an
// error.
func (k Kind) Bad() iter.Seq2[[][]int, api.Errno] {
	return func(yield func(m [][]int, want api.Errno) bool) {
		for _, part := range []struct {
			matrices [][][]int
			want     api.Errno
		}{
			{k.empty(), api.ErrNone}, {k.large(), api.ErrFull}, {k.uneven(), api.ErrShape}, {k.outside(), api.ErrRange},
		} {
			for _, m := range part.matrices {
				if !yield(m, part.want) {
					return
				}
			}
		}
	}
}

// NotSquare yields matrices over the field with more rows than columns and the
// other way round, with the errors that they have where only square ones may be.
func NotSquare() iter.Seq2[[][]int, api.Errno] {
	return ofField().NotSquare()
}

// NotSquare yields matrices of a kind with more rows than columns and the other
// way round, with the errors that they have where only square ones may be: an
// element that is none of the kind comes before the shape.
func (k Kind) NotSquare() iter.Seq2[[][]int, api.Errno] {
	return func(yield func(m [][]int, want api.Errno) bool) {
		for rows, columns := range k.Sizes() {
			if rows == columns {
				continue
			}
			for _, m := range [][][]int{
				k.Mixed(rows, columns, 1), Filled(rows, columns, 0), Filled(rows, columns, 1),
				Filled(rows, columns, k.Least), Filled(rows, columns, k.Most),
			} {
				if !yield(m, api.ErrShape) {
					return
				}
			}
			for _, n := range k.Outside() {
				for place := range rows * columns {
					if !yield(With(rows, columns, place/columns, place%columns, n), api.ErrRange) {
						return
					}
				}
			}
		}
	}
}

// empty returns lists without a first element.
func (k Kind) empty() [][][]int {
	many := Filled(k.Side+1, 1, 1)
	many[0] = nil
	return [][][]int{
		nil, {}, {nil}, {{}}, {nil, nil}, {{}, {}, {}}, {{}, {1}}, {nil, {1, 2}}, {{}, {k.Least - 1}},
		{{}, {k.Most + 1}, slices.Repeat([]int{1}, k.Side+1)},
		// There is no element, whatever else there is too much of.
		many, Filled(k.Side+1, 0, 0), Filled(1_000, 0, 0),
	}
}

// large returns matrices with too many rows or columns.
func (k Kind) large() [][][]int {
	l := [][][]int{Unit(k.Side + 1)}
	for _, n := range []int{0, 1, k.Least, k.Most, k.Least - 1, k.Most + 1} {
		l = append(l, Filled(k.Side+1, k.Side+1, n))
		for size := 1; size <= k.Side; size++ {
			for _, many := range []int{k.Side + 1, k.Side + 2, 2 * k.Side, 100, 1_000} {
				// The number of elements comes before what they are, and before
				// the length of later rows.
				part := Filled(many, size, n)
				part[1] = nil
				l = append(l, Filled(size, many, n), Filled(many, size, n), part, append(Filled(1, many, n), []int{1}, nil))
			}
		}
	}
	return l
}

// uneven returns matrices with a row that is shorter or longer than the first.
func (k Kind) uneven() [][][]int {
	var l [][][]int
	for rows, columns := range k.Sizes() {
		for i := 1; i < rows; i++ {
			for length := range 2*k.Side + 2 {
				if length == columns {
					continue
				}
				m := k.Mixed(rows, columns, 3)
				m[i] = k.Mixed(1, length, 4)[0]
				l = append(l, m)
				// The length of a row comes before its elements, and also
				// before those of the rows behind it.
				m = Clone(m)
				m[i] = Filled(1, length, k.Least-1)[0]
				l = append(l, m)
				m = Clone(m)
				for later := i + 1; later < rows; later++ {
					m[later] = Filled(1, columns, k.Most+1)[0]
				}
				l = append(l, m)
			}
		}
	}
	return l
}

// outside returns matrices with an element that is none of the kind.
func (k Kind) outside() [][][]int {
	var l [][][]int
	for _, n := range k.Outside() {
		l = append(l, Filled(k.Side, k.Side, n))
		for rows, columns := range k.Sizes() {
			for i := range rows {
				for j := range columns {
					m := k.Mixed(rows, columns, 5)
					m[i][j] = n
					l = append(l, m, With(rows, columns, i, j, n))
				}
			}
		}
	}
	// An element comes before the length of a later row.
	for rows, columns := range k.Sizes() {
		for later := range rows {
			for i := range later {
				for j := range columns {
					for _, length := range []int{0, columns - 1, columns + 1} {
						m := k.Mixed(rows, columns, 6)
						m[i][j] = []int{k.Least - 1, k.Most + 1}[j%2]
						m[later] = slices.Repeat([]int{1}, length)
						l = append(l, m)
					}
				}
			}
		}
	}
	return l
}
