package sample

import (
	"iter"
	"slices"
)

// Regular returns a square matrix of a kind, with elements that follow no plain
// rule, whose determinant is not 0 as integers; another seed may make another one.
func (k Kind) Regular(n, seed int) [][]int {
	for IntDet(k.Mixed(n, n, seed)) == 0 {
		seed += 1_000
	}
	return k.Mixed(n, n, seed)
}

// Singular yields square matrices of a kind whose determinant is 0: those that have
// one number everywhere or at one place, rows of zeros and multiples of other rows,
// and the same for columns.
func (k Kind) Singular() iter.Seq[[][]int] {
	return func(yield func(m [][]int) bool) {
		for n := 1; n <= k.Side; n++ {
			for _, m := range k.singular(n) {
				turned := Turned(m)
				if !yield(m) || !yield(turned) {
					return
				}
			}
		}
	}
}

// singular returns matrices of n rows whose determinant is 0.
func (k Kind) singular(n int) [][][]int {
	l := [][][]int{Filled(n, n, 0)}
	for number := k.Least; number <= k.Most && n > 1; number++ {
		l = append(l, Filled(n, n, number))
		for place := range n * n {
			l = append(l, With(n, n, place/n, place%n, number))
		}
	}
	for seed := range 20 {
		for i := range n {
			m := k.Mixed(n, n, seed)
			clear(m[i])
			l = append(l, m)
			for earlier := range i {
				m := k.Mixed(n, n, seed)
				m[i] = slices.Clone(m[earlier])
				if by := 1 - seed%3; k.has(by*slices.Min(m[i])) && k.has(by*slices.Max(m[i])) {
					m[i] = Multiple(m[i], by)
				}
				l = append(l, m)
			}
		}
	}
	return l
}

// Moves returns matrices of a kind with the same integer combinations of rows as
// m, made by exchanges, negations and sums of rows one after the other.
func (k Kind) Moves(m [][]int, seed int) [][][]int {
	var l [][][]int
	for step, n := range (Kind{Side: 1, Least: 0, Most: 999}).Mixed(1, 30, seed)[0] {
		m = Clone(m)
		i, other := n%len(m), n/7%len(m)
		row := Multiple(m[i], -1)
		if i != other {
			row = IntMul([][]int{{1, n/50%5 - 2}}, [][]int{m[i], m[other]})[0]
		}
		if step%3 == 0 {
			m[i], m[other] = m[other], m[i]
		} else if k.has(slices.Min(row)) && k.has(slices.Max(row)) {
			m[i] = row
		}
		l = append(l, m)
	}
	return l
}

// Moved returns the last of the moves of m.
func (k Kind) Moved(m [][]int, seed int) [][]int {
	l := k.Moves(m, seed)
	return l[len(l)-1]
}

// Multiple returns a row of integers times a number.
func Multiple(row []int, by int) []int {
	return IntMul([][]int{{by}}, [][]int{row})[0]
}

// InLattice tells whether x is an integer combination of the rows of m, whose
// determinant is not 0, by the rule of Cramer: the factor of a row is a quotient of
// determinants.
func InLattice(m [][]int, x []int) bool {
	for i := range m {
		replaced := slices.Clone(m)
		replaced[i] = x
		if IntDet(replaced)%IntDet(m) != 0 {
			return false
		}
	}
	return true
}
