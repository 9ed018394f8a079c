package solve

import (
	"slices"
	"testing"

	"rankmere/api"
	"rankmere/plain"
	"rankmere/sample"
)

// freeColumns returns the free columns of m: those that are sums of multiples of
// the columns before them, so that the rank stays the same.
func freeColumns(m [][]int) []int {
	var free []int
	rank := 0
	for j := range m[0] {
		var left [][]int
		for _, row := range m {
			left = append(left, row[:j+1])
		}
		if now := sample.Rank(left); now > rank {
			rank = now
		} else {
			free = append(free, j)
		}
	}
	return free
}

// sideOf returns m*x.
func sideOf(m [][]int, x []int) []int {
	to := make([]int, len(m))
	for i, row := range m {
		for j, n := range row {
			to[i] += n * x[j]
		}
		to[i] %= 9_973
	}
	return to
}

// solves tells whether x is a list of elements, one for each column, with
// m*x = to.
func solves(m [][]int, x, to []int) bool {
	return len(x) == len(m[0]) && slices.Min(x) >= 0 && slices.Max(x) <= 9_972 && slices.Equal(sideOf(m, x), to)
}

// zeros returns this many zeros.
func zeros(many int) []int {
	return make([]int, many)
}

// wantNull fails the test unless Null returns this and no error.
func wantNull(t *testing.T, m [][]int, want ...[]int) {
	t.Helper()
	if got, err := Null(m); !sample.Same(got, want) || err != nil {
		t.Fatalf("Null(%v) = %v, %v, want %v", m, got, err, want)
	}
}

// wantBasis fails the test unless Null returns what the document says, which is
// only one list of solutions. Which columns are free is known from ranks.
func wantBasis(t *testing.T, m [][]int) {
	t.Helper()
	free := freeColumns(m)
	got, err := Null(m)
	if err != nil || len(got) != len(free) {
		t.Fatalf("Null(%v) = %v, %v, but the free columns are %v", m, got, err, free)
	}
	for k, x := range got {
		if !solves(m, x, zeros(len(m))) {
			t.Fatalf("Null(%v) = %v, which are not all solutions", m, got)
		}
		for _, j := range free {
			if want := j == free[k]; x[j] != 0 && !want || x[j] != 1 && want {
				t.Fatalf("Null(%v) = %v, but the free columns are %v", m, got, free)
			}
		}
	}
}

// wantOne fails the test unless One returns this and no error.
func wantOne(t *testing.T, m [][]int, to, want []int) {
	t.Helper()
	if got, err := One(m, to); !slices.Equal(got, want) || err != nil {
		t.Fatalf("One(%v, %v) = %v, %v, want %v", m, to, got, err, want)
	}
}

// wantOneError fails the test unless One returns nothing but this error.
func wantOneError(t *testing.T, m [][]int, to []int, want api.Errno) {
	t.Helper()
	if got, err := One(m, to); len(got) != 0 || plain.Told(err) != want {
		t.Fatalf("One(%v, %v) = %v, %v, want nothing and %v", m, to, got, err, want)
	}
}

// wantSolved fails the test unless One returns what the document says, which is
// only one solution. There is none if the rank is another one with to as one
// more column.
func wantSolved(t *testing.T, m [][]int, to []int) {
	t.Helper()
	wide := sample.Clone(m)
	for i := range wide {
		wide[i] = append(wide[i], to[i])
	}
	if sample.Rank(wide) > sample.Rank(m) {
		wantOneError(t, m, to, api.ErrNone)
		return
	}
	got, err := One(m, to)
	if err != nil || !solves(m, got, to) {
		t.Fatalf("One(%v, %v) = %v, %v, which is no solution", m, to, got, err)
	}
	for _, j := range freeColumns(m) {
		if got[j] != 0 {
			t.Fatalf("One(%v, %v) = %v, but column %d is free", m, to, got, j)
		}
	}
}

// wantBad fails the test unless both functions return nothing but this error,
// whatever the right side is.
func wantBad(t *testing.T, m [][]int, want api.Errno) {
	t.Helper()
	if got, err := Null(m); len(got) != 0 || plain.Told(err) != want {
		t.Fatalf("Null(%v) = %v, %v, want nothing and %v", m, got, err, want)
	}
	for _, to := range [][]int{
		nil, {}, {0}, {-1}, {9_973}, zeros(len(m)), zeros(len(m) + 1), {1, 2, 3, 4, 5}, {0, -1}, slices.Repeat([]int{-1}, len(m)),
	} {
		wantOneError(t, m, to, want)
	}
}

func TestNull(t *testing.T) {
	for _, c := range []struct{ m, want [][]int }{
		{[][]int{{1, 2}}, [][]int{{9_971, 1}}},
		{[][]int{{2, 1}}, [][]int{{4_986, 1}}},
		{[][]int{{1, 2}, {2, 4}}, [][]int{{9_971, 1}}},
		{[][]int{{1, 9_972}}, [][]int{{1, 1}}},
		{[][]int{{9_972, 9_972}, {9_972, 9_972}}, [][]int{{9_972, 1}}},
		{[][]int{{1, 0}}, [][]int{{0, 1}}},
		{[][]int{{0, 1}}, [][]int{{1, 0}}},
		// No free columns.
		{[][]int{{1}}, nil},
		{[][]int{{9_972}}, nil},
		{[][]int{{1, 2}, {3, 4}}, nil},
		{[][]int{{0, 1}, {1, 0}}, nil},
		{[][]int{{0}, {0}, {5}, {0}, {9_972}}, nil},
		{[][]int{{1, 2}, {3, 4}, {5, 6}}, nil},
		{sample.Unit(5), nil},
		// Only free columns.
		{[][]int{{0}}, [][]int{{1}}},
		{[][]int{{0, 0}}, [][]int{{1, 0}, {0, 1}}},
		{[][]int{{0}, {0}, {0}, {0}, {0}}, [][]int{{1}}},
		{sample.Filled(1, 5, 0), sample.Unit(5)},
		{sample.Filled(5, 5, 0), sample.Unit(5)},
		{sample.Filled(2, 3, 0), sample.Unit(3)},
		// Free columns before, between and behind those with a pivot.
		{[][]int{{0, 0, 3, 0, 6}}, [][]int{{1, 0, 0, 0, 0}, {0, 1, 0, 0, 0}, {0, 0, 0, 1, 0}, {0, 0, 9_971, 0, 1}}},
		{[][]int{{1, 2, 3, 4, 5}}, [][]int{{9_971, 1, 0, 0, 0}, {9_970, 0, 1, 0, 0}, {9_969, 0, 0, 1, 0}, {9_968, 0, 0, 0, 1}}},
		{[][]int{{0, 0, 0, 0, 7}}, sample.Unit(5)[:4]},
		{[][]int{{1, 2, 3}, {4, 5, 6}}, [][]int{{1, 9_971, 1}}},
		{[][]int{{1, 2, 3}, {2, 4, 7}}, [][]int{{9_971, 1, 0}}},
		{[][]int{{0, 1, 2}, {0, 3, 4}}, [][]int{{1, 0, 0}}},
		{[][]int{{1, 2, 3}, {4, 5, 6}, {7, 8, 9}}, [][]int{{1, 9_971, 1}}},
		{[][]int{{1, 2}, {2, 4}, {3, 6}}, [][]int{{9_971, 1}}},
		{
			[][]int{{0, 2, 4, 0, 6}, {0, 1, 2, 3, 4}, {0, 3, 6, 3, 10}},
			[][]int{{1, 0, 0, 0, 0}, {0, 9_971, 1, 0, 0}, {0, 9_970, 0, 3_324, 1}},
		},
		{
			[][]int{{1, 0, 5, 0, 7}, {0, 1, 6, 0, 8}, {0, 0, 0, 1, 9}},
			[][]int{{9_968, 9_967, 1, 0, 0}, {9_966, 9_965, 0, 9_964, 1}},
		},
		{
			sample.Filled(5, 5, 9_972),
			[][]int{{9_972, 1, 0, 0, 0}, {9_972, 0, 1, 0, 0}, {9_972, 0, 0, 1, 0}, {9_972, 0, 0, 0, 1}},
		},
	} {
		wantNull(t, c.m, c.want...)
		wantBasis(t, c.m)
	}
}

func TestOne(t *testing.T) {
	line := [][]int{{1, 2}, {2, 4}}
	for _, c := range []struct {
		m        [][]int
		to, want []int
	}{
		{[][]int{{1, 2}}, []int{3}, []int{3, 0}},
		{[][]int{{0, 2}}, []int{3}, []int{0, 4_988}},
		{[][]int{{1}}, []int{0}, []int{0}},
		{[][]int{{1}}, []int{9_972}, []int{9_972}},
		{[][]int{{9_972}}, []int{1}, []int{9_972}},
		{[][]int{{9_972}}, []int{9_972}, []int{1}},
		{[][]int{{2}}, []int{1}, []int{4_987}},
		{[][]int{{0}}, []int{0}, []int{0}},
		{[][]int{{0, 0, 0}, {0, 0, 0}}, []int{0, 0}, []int{0, 0, 0}},
		// Systems with one solution.
		{[][]int{{1, 2}, {3, 4}}, []int{5, 6}, []int{9_969, 4_991}},
		{[][]int{{0, 1}, {1, 0}}, []int{7, 8}, []int{8, 7}},
		{[][]int{{2, 1}, {1, 1}}, []int{3, 2}, []int{1, 1}},
		{[][]int{{1, 2}, {3, 4}, {5, 6}}, []int{5, 11, 17}, []int{1, 2}},
		{[][]int{{0}, {0}, {5}, {0}, {9_972}}, []int{0, 0, 10, 0, 9_971}, []int{2}},
		{sample.Unit(5), []int{0, 1, 4_986, 9_971, 9_972}, []int{0, 1, 4_986, 9_971, 9_972}},
		// Systems with several solutions.
		{line, []int{3, 6}, []int{3, 0}},
		{line, []int{9_972, 9_971}, []int{9_972, 0}},
		{[][]int{{1, 2, 3}, {4, 5, 6}}, []int{6, 15}, []int{0, 3, 0}},
		{[][]int{{1, 2, 3}, {2, 4, 7}}, []int{4, 9}, []int{1, 0, 1}},
		{[][]int{{0, 0, 3, 0, 6}}, []int{9}, []int{0, 0, 3, 0, 0}},
		{[][]int{{0, 0, 0, 0, 7}}, []int{14}, []int{0, 0, 0, 0, 2}},
		{[][]int{{2, 9_972, 1, 0, 5}}, []int{9_972}, []int{4_986, 0, 0, 0, 0}},
		{[][]int{{0, 2, 4, 0, 6}, {0, 1, 2, 3, 4}, {0, 3, 6, 3, 10}}, []int{4, 5, 9}, []int{0, 2, 0, 1, 0}},
		{sample.Filled(5, 5, 9_972), []int{1, 1, 1, 1, 1}, []int{9_972, 0, 0, 0, 0}},
		// The first rows do not tell the elements in the order of the columns.
		{[][]int{{0, 0, 1}, {0, 1, 1}, {1, 1, 1}}, []int{3, 5, 6}, []int{1, 2, 3}},
		{[][]int{{1, 1, 1}, {1, 1, 2}, {1, 2, 2}}, []int{6, 9, 11}, []int{1, 2, 3}},
		{[][]int{{0, 0}, {0, 0}, {3, 5}, {0, 0}, {1, 1}}, []int{0, 0, 13, 0, 3}, []int{1, 2}},
	} {
		wantOne(t, c.m, c.to, c.want)
		wantSolved(t, c.m, c.to)
	}
}

func TestNoSolution(t *testing.T) {
	for _, c := range []struct {
		m  [][]int
		to []int
	}{
		{[][]int{{0}}, []int{1}},
		{[][]int{{0}}, []int{9_972}},
		{[][]int{{0, 0, 0, 0, 0}}, []int{1}},
		{[][]int{{1}, {1}}, []int{1, 2}},
		{[][]int{{1}, {0}}, []int{0, 9_972}},
		{[][]int{{0}, {1}}, []int{1, 0}},
		{[][]int{{1}, {2}, {3}, {4}, {5}}, []int{1, 2, 3, 4, 6}},
		{[][]int{{1, 2}, {2, 4}}, []int{3, 7}},
		{[][]int{{1, 2}, {2, 4}}, []int{0, 1}},
		{[][]int{{1, 2}, {2, 4}}, []int{1, 0}},
		{[][]int{{1, 2}, {3, 4}, {5, 6}}, []int{5, 11, 18}},
		{[][]int{{1, 2, 3}, {4, 5, 6}, {7, 8, 9}}, []int{1, 2, 4}},
		{[][]int{{0, 1, 1}, {0, 2, 2}}, []int{1, 1}},
		{sample.Filled(5, 5, 9_972), []int{1, 1, 1, 1, 0}},
		{sample.Filled(5, 5, 9_972), []int{0, 1, 1, 1, 1}},
	} {
		wantOneError(t, c.m, c.to, api.ErrNone)
		wantSolved(t, c.m, c.to)
	}
}

// TestForms has a matrix of each form, and makes others from it by the addition
// of multiples of its rows, for which the solutions are the same.
func TestForms(t *testing.T) {
	for rows, columns := range sample.Sizes() {
		for rank := 0; rank <= min(rows, columns); rank++ {
			for _, pivots := range sample.Subsets(columns, rank) {
				for seed := range 8 {
					form := sample.Form(pivots, sample.Mixed(rows, columns, seed))
					checkForm(t, form, sample.Unit(rows), pivots, seed)
					checkForm(t, form, sample.Invertible(rows, seed), pivots, seed)
				}
				for _, n := range []int{0, 1, 9_972} {
					form := sample.Form(pivots, sample.Filled(rows, columns, n))
					checkForm(t, form, sample.Invertible(rows, n), pivots, n)
				}
			}
		}
	}
}

// checkForm has the system that a change of the rows makes of one in reduced row
// echelon form with these pivots.
func checkForm(t *testing.T, form, change [][]int, pivots []int, seed int) {
	t.Helper()
	m, rows, columns := sample.Mul(change, form), len(form), len(form[0])
	var basis [][]int
	for j := range columns {
		if slices.Contains(pivots, j) {
			continue
		}
		x := zeros(columns)
		x[j] = 1
		for i, pivot := range pivots {
			x[pivot] = (9_973 - form[i][j]) % 9_973
		}
		basis = append(basis, x)
	}
	wantNull(t, m, basis...)
	for _, numbers := range [][]int{
		sample.Mixed(1, rows, seed+50)[0], zeros(rows), sample.Filled(1, rows, 1)[0], sample.Filled(1, rows, 9_972)[0],
	} {
		// The zero rows of the form want a 0 on the right side.
		side, x := zeros(rows), zeros(columns)
		copy(side, numbers[:len(pivots)])
		for i, pivot := range pivots {
			x[pivot] = side[i]
		}
		wantOne(t, m, sideOf(change, side), x)
		for i := len(pivots); i < rows; i++ {
			for _, n := range []int{1, 4_987, 9_972} {
				side[i] = n
				wantOneError(t, m, sideOf(change, side), api.ErrNone)
			}
			side[i] = 0
		}
	}
}

func TestAllSizes(t *testing.T) {
	for rows, columns := range sample.Sizes() {
		for seed := range 10 {
			m := sample.Mixed(rows, columns, seed)
			x := sample.Mixed(1, columns, seed+100)[0]
			to := sample.Mixed(1, rows, seed+200)[0]
			wantBasis(t, m)
			wantSolved(t, m, to)
			wantSolved(t, m, sideOf(m, x))
			wantOne(t, m, zeros(rows), zeros(columns))
			// With fewer different elements there are more ranks.
			for _, kinds := range []int{2, 3} {
				for _, row := range m {
					for j := range row {
						row[j] = (row[j]>>4%kinds + 9_972) % 9_973
					}
				}
				wantBasis(t, m)
				wantSolved(t, m, to)
				wantSolved(t, m, sideOf(m, x))
				wantOne(t, m, zeros(rows), zeros(columns))
			}
		}
		for _, n := range []int{0, 1, 9_972} {
			wantBasis(t, sample.Filled(rows, columns, n))
			wantSolved(t, sample.Filled(rows, columns, n), sample.Filled(1, rows, 9_972)[0])
			wantSolved(t, sample.Filled(rows, columns, n), zeros(rows))
		}
	}
}

// TestFewRanks has matrices of each rank, as products of narrower ones.
func TestFewRanks(t *testing.T) {
	for rows, columns := range sample.Sizes() {
		for between := 1; between < min(rows, columns); between++ {
			for seed := range 5 {
				m := sample.Mul(sample.Mixed(rows, between, seed), sample.Mixed(between, columns, seed+30))
				wantBasis(t, m)
				wantSolved(t, m, sideOf(m, sample.Mixed(1, columns, seed+60)[0]))
				wantSolved(t, m, sample.Mixed(1, rows, seed+90)[0])
			}
		}
	}
}

// TestSingleElements has one element that is not zero, at all places, and a
// right side with one that is not zero, also at all places.
func TestSingleElements(t *testing.T) {
	for rows, columns := range sample.Sizes() {
		for i := range rows {
			for j := range columns {
				for _, n := range []int{1, 2, 4_986, 9_972} {
					m := sample.With(rows, columns, i, j, n)
					unit := sample.Unit(columns)
					wantNull(t, m, slices.Concat(unit[:j], unit[j+1:])...)
					for k := range rows {
						to := zeros(rows)
						to[k] = n
						if k == i {
							wantOne(t, m, to, unit[j])
						} else {
							wantOneError(t, m, to, api.ErrNone)
						}
					}
				}
			}
		}
	}
}

// TestAllElements has all elements in a matrix and on the right side.
func TestAllElements(t *testing.T) {
	for n := range 9_973 {
		wantNull(t, [][]int{{1, n}}, []int{(9_973 - n) % 9_973, 1})
		wantOne(t, [][]int{{1}}, []int{n}, []int{n})
		wantOne(t, [][]int{{9_972, 1}}, []int{n}, []int{(9_973 - n) % 9_973, 0})
		if n > 0 {
			wantOne(t, [][]int{{n}}, []int{n}, []int{1})
			wantSolved(t, [][]int{{n}}, []int{1})
			wantOneError(t, [][]int{{0}}, []int{n}, api.ErrNone)
		}
	}
}

// TestFewElements has all systems of few rows, columns and different elements.
func TestFewElements(t *testing.T) {
	for _, c := range []struct {
		rows, columns int
		elements      []int
	}{
		{1, 1, []int{0, 1, 2, 4_986, 9_971, 9_972}},
		{1, 3, []int{0, 1, 3, 9_972}},
		{2, 2, []int{0, 1, 3, 9_972}},
		{2, 3, []int{0, 1, 9_972}},
		{3, 2, []int{0, 1, 9_972}},
		{3, 3, []int{0, 1}},
		{1, 5, []int{0, 1, 9_972}},
		{5, 1, []int{0, 1, 9_972}},
		{2, 4, []int{0, 1}},
		{4, 2, []int{0, 1}},
	} {
		m, to := sample.Filled(c.rows, c.columns, 0), zeros(c.rows)
		// The places behind those of the matrix are those of the right side.
		var fill func(place int)
		fill = func(place int) {
			if place == c.rows*c.columns {
				wantBasis(t, m)
			}
			if place == c.rows*(c.columns+1) {
				wantSolved(t, m, to)
				return
			}
			for _, n := range c.elements {
				if place < c.rows*c.columns {
					m[place/c.columns][place%c.columns] = n
				} else {
					to[place-c.rows*c.columns] = n
				}
				fill(place + 1)
			}
		}
		fill(0)
	}
}

// TestFullRank has square matrices with an inverse, also of MaxDim rows and
// columns, so that each right side has one solution.
func TestFullRank(t *testing.T) {
	for n := 1; n <= 5; n++ {
		for seed := range 50 {
			m, x := sample.Invertible(n, seed), sample.Mixed(1, n, seed)[0]
			wantNull(t, m)
			wantOne(t, m, sideOf(m, x), x)
			wantSolved(t, m, x)
			wantOne(t, m, zeros(n), zeros(n))
			for j, unit := range sample.Unit(n) {
				wantSolved(t, m, unit)
				var column []int
				for _, row := range m {
					column = append(column, row[j])
				}
				wantOne(t, m, column, unit)
			}
		}
	}
}

// TestOrders has the same equations in all orders.
func TestOrders(t *testing.T) {
	for _, m := range [][][]int{
		sample.Unit(5),
		sample.Mixed(5, 5, 1),
		sample.Mixed(5, 2, 1),
		sample.Mixed(4, 4, 1),
		sample.Mul(sample.Mixed(5, 2, 2), sample.Mixed(2, 5, 3)),
		{{0, 1, 2, 3, 4}, {0, 0, 0, 5, 6}, {0, 0, 0, 0, 0}, {0, 2, 4, 6, 8}, {0, 1, 2, 8, 10}},
		{{0}, {1}, {0}, {2}, {9_972}},
	} {
		basis, err := Null(m)
		if err != nil {
			t.Fatal(err)
		}
		x, err := One(m, sideOf(m, sample.Mixed(1, len(m[0]), 4)[0]))
		if err != nil {
			t.Fatal(err)
		}
		for _, ordered := range sample.Orders(m) {
			wantNull(t, ordered, basis...)
			wantOne(t, ordered, sideOf(ordered, x), x)
		}
	}
}

// TestBad has all lists that are no matrices.
func TestBad(t *testing.T) {
	for m, want := range sample.Bad() {
		wantBad(t, m, want)
	}
}

// TestSideShape has right sides with too few and too many elements.
func TestSideShape(t *testing.T) {
	for rows, columns := range sample.Sizes() {
		for _, m := range [][][]int{sample.Mixed(rows, columns, 7), sample.Filled(rows, columns, 0)} {
			for _, length := range []int{0, 1, 2, 3, 4, 5, 6, 7, 100} {
				if length == rows {
					continue
				}
				wantOneError(t, m, zeros(length), api.ErrShape)
				// The number of elements comes before what they are.
				for _, n := range []int{1, 9_972, -1, 9_973} {
					wantOneError(t, m, sample.Filled(1, length, n)[0], api.ErrShape)
				}
			}
			wantOneError(t, m, nil, api.ErrShape)
			// Spare capacity does not count.
			wantOneError(t, m, zeros(rows)[:rows-1], api.ErrShape)
		}
	}
}

// TestSideRange has right sides with an element that is none of the field. That
// comes before whether there is a solution.
func TestSideRange(t *testing.T) {
	for rows, columns := range sample.Sizes() {
		for i := range rows {
			for _, bad := range sample.Outside() {
				for _, m := range [][][]int{
					sample.Mixed(rows, columns, 8), sample.Filled(rows, columns, 0), sample.Filled(rows, columns, 1),
				} {
					for _, n := range []int{0, 1, 9_972} {
						to := sample.Filled(1, rows, n)[0]
						to[i] = bad
						wantOneError(t, m, to, api.ErrRange)
						to[(i+1)%rows] = bad
						wantOneError(t, m, to, api.ErrRange)
					}
				}
			}
		}
	}
	wantOneError(t, [][]int{{0}, {0}}, []int{1, -1}, api.ErrRange)
	wantOneError(t, [][]int{{0}, {0}}, []int{1, 9_973}, api.ErrRange)
	wantOneError(t, [][]int{{1}, {1}, {1}}, []int{1, 2, 9_973}, api.ErrRange)
}

// checkArguments calls both functions, and overwrites the results.
func checkArguments(t *testing.T, m [][]int, to []int) {
	t.Helper()
	// The right side is one more row here, so that it is watched as well.
	all := sample.Spacious(append(slices.Clone(m), to))
	before := sample.Whole(all)
	m, to = all[:len(m):len(m)], all[len(m)]
	basis, _ := Null(m)
	x, _ := One(m, to)
	wantBasis, wantX := sample.Clone(basis), slices.Clone(x)
	for range 2 {
		nextBasis, _ := Null(m)
		nextX, _ := One(m, to)
		if !sample.Same(nextBasis, wantBasis) || !slices.Equal(nextX, wantX) {
			t.Fatalf("of %v, the results are first %v, %v and later %v, %v", before, wantBasis, wantX, nextBasis, nextX)
		}
		if !sample.Spoil(append(slices.Clone(nextBasis), nextX)) {
			t.Fatalf("of %v, results share memory", before)
		}
		clear(nextBasis[:cap(nextBasis)])
		if !sample.Same(basis, wantBasis) || !slices.Equal(x, wantX) {
			t.Fatalf("of %v, two results share memory", before)
		}
	}
	if !sample.Same(sample.Whole(all), before) {
		t.Fatalf("arguments %v became %v", before, sample.Whole(all))
	}
	// What the caller does to the arguments later is not seen in the results.
	sample.Spoil(all)
	if !sample.Same(basis, wantBasis) || !slices.Equal(x, wantX) {
		t.Fatalf("of %v, results share memory with the arguments", before)
	}
}

// TestArguments checks that arguments stay as they are, with their spare
// capacity, whatever is done to the results, and that results depend on nothing
// else.
func TestArguments(t *testing.T) {
	for rows, columns := range sample.Sizes() {
		sides := [][]int{
			zeros(rows), sample.Filled(1, rows, 1)[0], sample.Mixed(1, rows, 9)[0], sample.Filled(1, rows, 9_973)[0], nil,
			zeros(rows + 1),
		}
		for _, to := range sides {
			checkArguments(t, sample.Mixed(rows, columns, 12), to)
			checkArguments(t, sample.Filled(rows, columns, 0), to)
			checkArguments(t, sample.Filled(rows, columns, 1), to)
			checkArguments(t, sample.Filled(rows, columns, 9_973), to)
		}
		for rank := range min(rows, columns) + 1 {
			for _, pivots := range sample.Subsets(columns, rank) {
				m := sample.Form(pivots, sample.Mixed(rows, columns, 13))
				checkArguments(t, m, sideOf(m, sample.Mixed(1, columns, 14)[0]))
			}
		}
	}
	checkArguments(t, nil, nil)
	checkArguments(t, sample.Unit(5), []int{1, 2, 3, 4, 5})
	checkArguments(t, sample.Unit(6), []int{1, 2, 3, 4, 5, 6})
	checkArguments(t, [][]int{{1, 2}, {3}}, []int{1, 2})
}

// TestSharedArguments has rows and a right side that are the same memory, or
// overlap.
func TestSharedArguments(t *testing.T) {
	line := sample.Mixed(1, 12, 14)[0]
	before := slices.Clone(line)
	m := [][]int{line[:5], line[:5], line[2:7], line[7:12], line[1:6]}
	for range 2 {
		wantBasis(t, m)
		wantSolved(t, m, line[2:7])
		wantSolved(t, m, line[:5])
		wantSolved(t, m[1:], line[:4])
		wantSolved(t, [][]int{line[:1], line[:1]}, []int{line[0], line[0]})
		if !slices.Equal(line, before) {
			t.Fatalf("%v became %v", before, line)
		}
	}
}
