package inv

import (
	"slices"
	"testing"

	"rankmere/api"
	"rankmere/plain"
	"rankmere/sample"
)

// upright returns a list as a matrix of one column.
func upright(l []int) [][]int {
	var m [][]int
	for _, n := range l {
		m = append(m, []int{n})
	}
	return m
}

// outer returns the product of u as a column and v as a row.
func outer(u, v []int) [][]int {
	return sample.Mul(upright(u), [][]int{v})
}

// plus returns the sum of two matrices.
func plus(a, b [][]int) [][]int {
	l := sample.Clone(a)
	for i, row := range l {
		for j := range row {
			row[j] = sample.Element(row[j] + b[i][j])
		}
	}
	return l
}

// negated returns a list whose sum with l has only zeros.
func negated(l []int) []int {
	var all []int
	for _, n := range l {
		all = append(all, sample.Element(-n))
	}
	return all
}

// elements tells whether m is a square matrix of elements of the field.
func elements(m [][]int, rows int) bool {
	if len(m) != rows {
		return false
	}
	for _, row := range m {
		if len(row) != rows || slices.Min(row) < 0 || slices.Max(row) > 9_972 {
			return false
		}
	}
	return true
}

// wantOf fails the test unless Of returns this and no error.
func wantOf(t *testing.T, m, want [][]int) {
	t.Helper()
	if got, err := Of(m); !sample.Same(got, want) || err != nil {
		t.Fatalf("Of(%v) = %v, %v, want %v", m, got, err, want)
	}
}

// wantOfError fails the test unless Of returns nothing but this error.
func wantOfError(t *testing.T, m [][]int, want api.Errno) {
	t.Helper()
	if got, err := Of(m); len(got) != 0 || plain.Told(err) != want {
		t.Fatalf("Of(%v) = %v, %v, want nothing and %v", m, got, err, want)
	}
}

// wantInverse fails the test unless Of returns the inverse, or ErrNone if the
// determinant is 0. There is only one matrix whose product with m is the identity
// matrix.
func wantInverse(t *testing.T, m [][]int) {
	t.Helper()
	if sample.Det(m) == 0 {
		wantOfError(t, m, api.ErrNone)
		return
	}
	got, err := Of(m)
	if err != nil || !elements(got, len(m)) || !sample.Same(sample.Mul(m, got), sample.Unit(len(m))) {
		t.Fatalf("Of(%v) = %v, %v, which is not the inverse", m, got, err)
	}
}

// wantChange fails the test unless Change returns this and no error.
func wantChange(t *testing.T, undo [][]int, u, v []int, want [][]int) {
	t.Helper()
	if got, err := Change(undo, u, v); !sample.Same(got, want) || err != nil {
		t.Fatalf("Change(%v, %v, %v) = %v, %v, want %v", undo, u, v, got, err, want)
	}
}

// wantChangeError fails the test unless Change returns nothing but this error.
func wantChangeError(t *testing.T, undo [][]int, u, v []int, want api.Errno) {
	t.Helper()
	if got, err := Change(undo, u, v); len(got) != 0 || plain.Told(err) != want {
		t.Fatalf("Change(%v, %v, %v) = %v, %v, want nothing and %v", undo, u, v, got, err, want)
	}
}

// wantFormula fails the test unless Change returns what the formula says: k times
// the result and the product of the column undo*u and the row v*undo are together
// k times undo.
func wantFormula(t *testing.T, undo [][]int, u, v []int) {
	t.Helper()
	column, row := sample.Mul(undo, upright(u)), sample.Mul([][]int{v}, undo)
	k := sample.Element(1 + sample.Mul([][]int{v}, column)[0][0])
	if k == 0 {
		wantChangeError(t, undo, u, v, api.ErrNone)
		return
	}
	got, err := Change(undo, u, v)
	if err != nil || !elements(got, len(undo)) {
		t.Fatalf("Change(%v, %v, %v) = %v, %v", undo, u, v, got, err)
	}
	for i := range undo {
		for j, n := range undo[i] {
			if sample.Element(k*got[i][j]+column[i][0]*row[0][j]) != k*n%9_973 {
				t.Fatalf("Change(%v, %v, %v) = %v, but k is %d", undo, u, v, got, k)
			}
		}
	}
}

// wantChanged fails the test unless Change of the inverse of m returns the inverse
// of what m becomes, or ErrNone if that has none.
func wantChanged(t *testing.T, m [][]int, u, v []int) {
	t.Helper()
	undo, err := Of(m)
	if err != nil {
		t.Fatalf("Of(%v) has error %v", m, err)
	}
	wantFormula(t, undo, u, v)
	changed := plus(m, outer(u, v))
	if sample.Det(changed) == 0 {
		wantChangeError(t, undo, u, v, api.ErrNone)
		return
	}
	got, err := Change(undo, u, v)
	if err != nil || !elements(got, len(m)) || !sample.Same(sample.Mul(changed, got), sample.Unit(len(m))) {
		t.Fatalf("Change(%v, %v, %v) = %v, %v, which is not the inverse of %v", undo, u, v, got, err, changed)
	}
}

// wantBad fails the test unless both functions return nothing but this error,
// whatever u and v are.
func wantBad(t *testing.T, m [][]int, want api.Errno) {
	t.Helper()
	wantOfError(t, m, want)
	lists := [][]int{
		nil, {0}, {-1}, {9_973}, {1, 2}, {1, -1}, make([]int, len(m)), make([]int, len(m)+1), {1, 2, 3, 4, 5},
	}
	for _, u := range lists {
		for _, v := range lists {
			wantChangeError(t, m, u, v, want)
		}
	}
}

func TestOf(t *testing.T) {
	for _, c := range []struct{ m, want [][]int }{
		{[][]int{{1}}, [][]int{{1}}},
		{[][]int{{2}}, [][]int{{4_987}}},
		{[][]int{{9_972}}, [][]int{{9_972}}},
		{[][]int{{1, 1}, {0, 1}}, [][]int{{1, 9_972}, {0, 1}}},
		{[][]int{{1, 0}, {5, 1}}, [][]int{{1, 0}, {9_968, 1}}},
		{[][]int{{1, 2}, {3, 4}}, [][]int{{9_971, 1}, {4_988, 4_986}}},
		{[][]int{{2, 1}, {1, 1}}, [][]int{{1, 9_972}, {9_972, 2}}},
		{[][]int{{0, 1}, {1, 0}}, [][]int{{0, 1}, {1, 0}}},
		{[][]int{{0, 2}, {1, 0}}, [][]int{{0, 1}, {4_987, 0}}},
		{[][]int{{2, 0}, {0, 9_972}}, [][]int{{4_987, 0}, {0, 9_972}}},
		{[][]int{{0, 1, 0}, {0, 0, 1}, {1, 0, 0}}, [][]int{{0, 0, 1}, {1, 0, 0}, {0, 1, 0}}},
		{[][]int{{1, 2, 3}, {0, 1, 4}, {5, 6, 0}}, [][]int{{9_949, 18, 5}, {20, 9_958, 9_969}, {9_968, 4, 1}}},
		{[][]int{{2, 1, 1}, {1, 2, 1}, {1, 1, 2}}, [][]int{{2_494, 2_493, 2_493}, {2_493, 2_494, 2_493}, {2_493, 2_493, 2_494}}},
		{
			[][]int{{1, 1, 1, 1}, {0, 1, 1, 1}, {0, 0, 1, 1}, {0, 0, 0, 1}},
			[][]int{{1, 9_972, 0, 0}, {0, 1, 9_972, 0}, {0, 0, 1, 9_972}, {0, 0, 0, 1}},
		},
		{
			[][]int{{1, 1, 1, 1, 1}, {1, 2, 2, 2, 2}, {1, 2, 3, 3, 3}, {1, 2, 3, 4, 4}, {1, 2, 3, 4, 5}},
			[][]int{
				{2, 9_972, 0, 0, 0}, {9_972, 2, 9_972, 0, 0}, {0, 9_972, 2, 9_972, 0}, {0, 0, 9_972, 2, 9_972}, {0, 0, 0, 9_972, 1},
			},
		},
		{sample.Unit(5), sample.Unit(5)},
	} {
		wantOf(t, c.m, c.want)
		wantOf(t, c.want, c.m)
		wantOf(t, sample.Turned(c.m), sample.Turned(c.want))
		wantInverse(t, c.m)
	}
}

func TestSingular(t *testing.T) {
	for _, m := range [][][]int{
		{{0}},
		{{0, 0}, {0, 0}},
		{{1, 2}, {2, 4}},
		{{1, 0}, {5, 0}},
		{{0, 0}, {1, 5}},
		// The determinant is 9973, and so 0 only modulo Prime.
		{{100, 27}, {1, 100}},
		{{9_972, 1}, {1, 9_972}},
		{{1, 2, 3}, {4, 5, 6}, {7, 8, 9}},
		{{1, 2, 3}, {4, 5, 6}, {1, 2, 3}},
		{{1, 0, 0, 0}, {0, 1, 0, 0}, {0, 0, 1, 0}, {1, 1, 1, 0}},
		sample.Filled(5, 5, 9_972),
		sample.With(5, 5, 2, 2, 1),
	} {
		wantOfError(t, m, api.ErrNone)
		wantOfError(t, sample.Turned(m), api.ErrNone)
		wantInverse(t, m)
	}
	for n := 2; n <= 5; n++ {
		for _, k := range []int{0, 1, 2, 4_986, 9_972} {
			wantOfError(t, sample.Filled(n, n, k), api.ErrNone)
		}
		for i := range n {
			m := sample.Unit(n)
			m[i][i] = 0
			wantOfError(t, m, api.ErrNone)
		}
	}
}

func TestChange(t *testing.T) {
	for _, c := range []struct {
		undo [][]int
		u, v []int
		want [][]int
	}{
		{[][]int{{1}}, []int{1}, []int{1}, [][]int{{4_987}}},
		{[][]int{{1}}, []int{0}, []int{0}, [][]int{{1}}},
		{[][]int{{1}}, []int{9_972}, []int{2}, [][]int{{9_972}}},
		{[][]int{{4_987}}, []int{3}, []int{1}, [][]int{{5_984}}},
		{[][]int{{9_972}}, []int{9_972}, []int{9_972}, nil},
		{[][]int{{9_972}}, []int{9_972}, []int{1}, [][]int{{4_986}}},
		{sample.Unit(2), []int{1, 0}, []int{0, 1}, [][]int{{1, 9_972}, {0, 1}}},
		{sample.Unit(2), []int{0, 1}, []int{1, 0}, [][]int{{1, 0}, {9_972, 1}}},
		{sample.Unit(2), []int{1, 2}, []int{3, 4}, [][]int{{2_494, 3_324}, {4_986, 6_649}}},
		{sample.Unit(2), []int{3, 4}, []int{1, 2}, [][]int{{2_494, 4_986}, {3_324, 6_649}}},
		// The matrix has no inverse, but the formula has a result.
		{[][]int{{1, 2}, {2, 4}}, []int{1, 0}, []int{1, 0}, [][]int{{4_987, 1}, {1, 2}}},
		{[][]int{{0, 1}, {0, 0}}, []int{0, 1}, []int{1, 0}, [][]int{{0, 4_987}, {0, 0}}},
		{sample.Filled(5, 5, 0), []int{1, 2, 3, 4, 5}, []int{9_972, 8, 7, 6, 5}, sample.Filled(5, 5, 0)},
		{sample.Filled(2, 2, 9_972), []int{1, 1}, []int{1, 1}, sample.Filled(2, 2, 6_649)},
		// The k is 0.
		{[][]int{{1}}, []int{9_972}, []int{1}, nil},
		{[][]int{{1}}, []int{1}, []int{9_972}, nil},
		{[][]int{{4_987}}, []int{9_971}, []int{1}, nil},
		{sample.Unit(2), []int{1, 9_972}, []int{1, 2}, nil},
		{[][]int{{0, 1}, {0, 0}}, []int{0, 1}, []int{9_972, 5}, nil},
		{sample.Unit(5), []int{1, 2, 3, 4, 5}, []int{9_972, 0, 0, 0, 0}, nil},
	} {
		if c.want == nil {
			wantChangeError(t, c.undo, c.u, c.v, api.ErrNone)
			wantChangeError(t, sample.Turned(c.undo), c.v, c.u, api.ErrNone)
		} else {
			wantChange(t, c.undo, c.u, c.v, c.want)
			wantChange(t, sample.Turned(c.undo), c.v, c.u, sample.Turned(c.want))
		}
		wantFormula(t, c.undo, c.u, c.v)
	}
}

// TestAllElements has all elements in matrices of one and two rows, and as u and
// v.
func TestAllElements(t *testing.T) {
	for n := range 9_973 {
		wantInverse(t, [][]int{{n}})
		wantInverse(t, [][]int{{n, 1}, {2, 3}})
		wantInverse(t, [][]int{{1, n}, {2, 3}})
		wantInverse(t, [][]int{{1, 2}, {n, 3}})
		wantInverse(t, [][]int{{1, 2}, {3, n}})
		wantFormula(t, [][]int{{n}}, []int{1}, []int{2})
		wantFormula(t, [][]int{{1}}, []int{n}, []int{1})
		wantFormula(t, [][]int{{1}}, []int{1}, []int{n})
		wantFormula(t, [][]int{{1, n}, {2, 3}}, []int{n, 4}, []int{5, n})
	}
}

// TestFewElements has all matrices of few rows and few different elements.
func TestFewElements(t *testing.T) {
	for m := range sample.All(2, 2, 0, 1, 2, 4_986, 4_987, 9_971, 9_972) {
		wantInverse(t, m)
		for _, u := range [][]int{{0, 0}, {1, 0}, {0, 9_972}, {1, 1}, {4_987, 3}} {
			for _, v := range [][]int{{0, 0}, {9_972, 0}, {0, 1}, {1, 2}, {9_971, 5_000}} {
				wantFormula(t, m, u, v)
			}
		}
	}
	for m := range sample.All(3, 3, 0, 1, 9_972) {
		wantInverse(t, m)
		wantFormula(t, m, []int{1, 0, 2}, []int{9_972, 3, 1})
	}
}

// TestAllSizes has matrices without zeros, and with elements of few kinds, of
// which there are more that have no inverse.
func TestAllSizes(t *testing.T) {
	for n := 1; n <= 5; n++ {
		for seed := range 100 {
			m := sample.Mixed(n, n, seed)
			u, v := sample.Mixed(1, n, seed+200)[0], sample.Mixed(1, n, seed+300)[0]
			wantInverse(t, m)
			wantFormula(t, m, u, v)
			for _, kinds := range []int{2, 3} {
				for _, row := range m {
					for j := range row {
						row[j] = (row[j]>>4%kinds + 9_972) % 9_973
					}
				}
				wantInverse(t, m)
				wantFormula(t, m, u, v)
				wantFormula(t, m, m[0], m[n-1])
			}
		}
	}
}

// TestForms has matrices of all ranks, of which only those of full rank have an
// inverse.
func TestForms(t *testing.T) {
	for n := 1; n <= 5; n++ {
		for rank := 0; rank <= n; rank++ {
			for _, pivots := range sample.Subsets(n, rank) {
				for seed := range 5 {
					form, change := sample.Form(pivots, sample.Mixed(n, n, seed)), sample.Invertible(n, seed)
					for _, m := range [][][]int{form, sample.Mul(change, form), sample.Mul(form, change)} {
						wantInverse(t, m)
						if rank < n {
							wantOfError(t, m, api.ErrNone)
						}
						wantFormula(t, m, change[0], sample.Mixed(1, n, seed+10)[0])
					}
				}
			}
		}
	}
}

// TestInverses checks that an inverse undoes the matrix from both sides, is undone
// by it, and that those of products are multiplied the other way round.
func TestInverses(t *testing.T) {
	for n := 1; n <= 5; n++ {
		for seed := range 50 {
			a, b := sample.Invertible(n, seed), sample.Invertible(n, seed+100)
			first, err := Of(a)
			if err != nil {
				t.Fatal(err)
			}
			second, err := Of(b)
			if err != nil {
				t.Fatal(err)
			}
			wantInverse(t, a)
			if !sample.Same(sample.Mul(first, a), sample.Unit(n)) {
				t.Fatalf("Of(%v) = %v, which is not the inverse", a, first)
			}
			wantOf(t, first, a)
			wantOf(t, sample.Turned(a), sample.Turned(first))
			wantOf(t, sample.Mul(a, b), sample.Mul(second, first))
		}
	}
}

// TestChanged compares Change with the inverse of the changed matrix.
func TestChanged(t *testing.T) {
	for n := 1; n <= 5; n++ {
		for seed := range 50 {
			m := sample.Invertible(n, seed)
			u, v := sample.Mixed(1, n, seed+1)[0], sample.Mixed(1, n, seed+2)[0]
			wantChanged(t, m, u, v)
			wantChanged(t, sample.Unit(n), u, v)
			for _, k := range []int{0, 1, 9_972} {
				wantChanged(t, m, u, sample.Filled(1, n, k)[0])
				wantChanged(t, m, sample.Filled(1, n, k)[0], v)
			}
			for i, unit := range sample.Unit(n) {
				// The first of these clears row i, and so there is no inverse.
				wantChanged(t, m, unit, negated(m[i]))
				wantChanged(t, m, unit, m[i])
				wantChanged(t, m, unit, v)
				wantChanged(t, m, u, unit)
				undo, _ := Of(m)
				wantChangeError(t, undo, unit, negated(m[i]), api.ErrNone)
			}
		}
	}
}

// TestChangeAndBack changes a matrix at each place, and the other way round.
func TestChangeAndBack(t *testing.T) {
	for n := 1; n <= 5; n++ {
		m := sample.Invertible(n, 77)
		for i := range n {
			for j := range n {
				for _, k := range []int{0, 1, 4_986, 9_972} {
					u, v := sample.With(1, n, 0, i, k)[0], sample.Unit(n)[j]
					wantChanged(t, m, u, v)
					undo, _ := Of(m)
					changed, err := Change(undo, u, v)
					if err == nil {
						wantChange(t, changed, negated(u), v, undo)
						wantChange(t, changed, u, negated(v), undo)
					}
				}
			}
		}
	}
}

// TestNothingChanges has u or v of zeros.
func TestNothingChanges(t *testing.T) {
	for n := 1; n <= 5; n++ {
		for _, m := range [][][]int{
			sample.Mixed(n, n, 1), sample.Unit(n), sample.Filled(n, n, 0), sample.Filled(n, n, 9_972),
		} {
			none, some := make([]int, n), sample.Mixed(1, n, 2)[0]
			wantChange(t, m, none, none, m)
			wantChange(t, m, none, some, m)
			wantChange(t, m, some, none, m)
		}
	}
}

// TestBad has all lists that are no matrices.
func TestBad(t *testing.T) {
	for m, want := range sample.Bad() {
		wantBad(t, m, want)
	}
}

// TestNotSquare has matrices with more rows than columns and the other way round.
// All other errors of the matrix come before this one.
func TestNotSquare(t *testing.T) {
	for m, want := range sample.NotSquare() {
		wantBad(t, m, want)
	}
	for rows, columns := range sample.Sizes() {
		if rows == columns {
			continue
		}
		wantChangeError(t, sample.Mixed(rows, columns, 1), make([]int, rows), make([]int, columns), api.ErrShape)
		// It comes before the elements of u and v.
		bad := sample.Filled(1, rows, -1)[0]
		wantChangeError(t, sample.Mixed(rows, columns, 1), bad, bad, api.ErrShape)
	}
	wantBad(t, sample.Filled(1, 6, 0), api.ErrFull)
	wantBad(t, sample.Filled(6, 5, 0), api.ErrFull)
	wantBad(t, sample.Filled(2, 0, 0), api.ErrNone)
}

// TestFactorShape has u and v with too few and too many elements. That comes
// before what their elements are.
func TestFactorShape(t *testing.T) {
	for n := 1; n <= 5; n++ {
		for _, m := range [][][]int{sample.Mixed(n, n, 1), sample.Unit(n), sample.Filled(n, n, 0)} {
			for _, length := range []int{0, 1, 2, 3, 4, 5, 6, 7, 100} {
				if length == n {
					continue
				}
				for _, k := range []int{0, 1, 9_972, -1, 9_973} {
					wrong := sample.Filled(1, length, k)[0]
					wantChangeError(t, m, wrong, wrong, api.ErrShape)
					for _, other := range []int{0, 1, 9_972, -1, 9_973} {
						right := sample.Filled(1, n, other)[0]
						wantChangeError(t, m, wrong, right, api.ErrShape)
						wantChangeError(t, m, right, wrong, api.ErrShape)
					}
				}
			}
			// Only their sum is the right one, and spare capacity does not count.
			wantChangeError(t, m, make([]int, n-1), make([]int, n+1), api.ErrShape)
			wantChangeError(t, m, make([]int, n+1), make([]int, n-1), api.ErrShape)
			wantChangeError(t, m, make([]int, n)[:n-1], make([]int, n), api.ErrShape)
			wantChangeError(t, m, make([]int, n), make([]int, n)[:n-1], api.ErrShape)
			wantChangeError(t, m, nil, nil, api.ErrShape)
			wantChangeError(t, m, make([]int, n), nil, api.ErrShape)
			wantChangeError(t, m, nil, make([]int, n), api.ErrShape)
		}
	}
}

// TestFactorRange has u and v with an element that is none of the field.
func TestFactorRange(t *testing.T) {
	for n := 1; n <= 5; n++ {
		for _, m := range [][][]int{sample.Mixed(n, n, 1), sample.Unit(n), sample.Filled(n, n, 0)} {
			for i := range n {
				for _, n := range sample.Outside() {
					bad := sample.Mixed(1, len(m), 3)[0]
					bad[i] = n
					for _, good := range [][]int{make([]int, len(m)), sample.Mixed(1, len(m), 4)[0]} {
						wantChangeError(t, m, bad, good, api.ErrRange)
						wantChangeError(t, m, good, bad, api.ErrRange)
					}
					wantChangeError(t, m, bad, bad, api.ErrRange)
				}
			}
		}
	}
	// The k would be 0.
	wantChangeError(t, [][]int{{1}}, []int{-1}, []int{1}, api.ErrRange)
	wantChangeError(t, [][]int{{1}}, []int{1}, []int{-1}, api.ErrRange)
	wantChangeError(t, sample.Unit(2), []int{9_972, 0}, []int{1, 9_973}, api.ErrRange)
	wantChangeError(t, sample.Unit(2), []int{9_972, 9_973}, []int{1, 0}, api.ErrRange)
}

// TestPlaces checks the order of the places, and that no more of them come once
// a loop has ended.
func TestPlaces(t *testing.T) {
	for rows := range 6 {
		var want [][]int
		for place := range rows * rows {
			want = append(want, []int{place / rows, place % rows})
		}
		for many := range len(want) + 1 {
			var got [][]int
			for i, j := range places(rows) {
				if len(got) == many {
					break
				}
				got = append(got, []int{i, j})
			}
			if !sample.Same(got, want[:many]) {
				t.Fatalf("the first %d places of %d rows are %v", many, rows, got)
			}
		}
	}
}

// checkArguments calls both functions, and overwrites the results.
func checkArguments(t *testing.T, m [][]int, u, v []int) {
	t.Helper()
	// The lists are two more rows here, so that they are watched as well.
	all := sample.Spacious(append(slices.Clone(m), u, v))
	before := sample.Whole(all)
	m, u, v = all[:len(m):len(m)], all[len(m)], all[len(m)+1]
	inverse, _ := Of(m)
	changed, _ := Change(m, u, v)
	wantInverse, wantChanged := sample.Clone(inverse), sample.Clone(changed)
	for range 2 {
		nextInverse, _ := Of(m)
		nextChanged, _ := Change(m, u, v)
		if !sample.Same(nextInverse, wantInverse) || !sample.Same(nextChanged, wantChanged) {
			t.Fatalf("of %v, the results are first %v, %v and later %v, %v", before, wantInverse, wantChanged, nextInverse, nextChanged)
		}
		if !sample.Spoil(slices.Concat(nextInverse, nextChanged)) {
			t.Fatalf("of %v, results share memory", before)
		}
		clear(nextInverse[:cap(nextInverse)])
		clear(nextChanged[:cap(nextChanged)])
		if !sample.Same(inverse, wantInverse) || !sample.Same(changed, wantChanged) {
			t.Fatalf("of %v, two results share memory", before)
		}
	}
	if !sample.Same(sample.Whole(all), before) {
		t.Fatalf("arguments %v became %v", before, sample.Whole(all))
	}
	// What the caller does to the arguments later is not seen in the results.
	sample.Spoil(all)
	if !sample.Same(inverse, wantInverse) || !sample.Same(changed, wantChanged) {
		t.Fatalf("of %v, results share memory with the arguments", before)
	}
}

// TestArguments checks that arguments stay as they are, with their spare
// capacity, whatever is done to the results, and that results depend on nothing
// else.
func TestArguments(t *testing.T) {
	for rows, columns := range sample.Sizes() {
		lists := [][]int{
			make([]int, rows), sample.Mixed(1, rows, 9)[0], sample.Filled(1, rows, 9_972)[0], sample.Filled(1, rows, 9_973)[0],
			nil, make([]int, rows+1),
		}
		for _, u := range lists {
			for _, v := range lists {
				checkArguments(t, sample.Mixed(rows, columns, 12), u, v)
				checkArguments(t, sample.Filled(rows, columns, 0), u, v)
				checkArguments(t, sample.Filled(rows, columns, 9_973), u, v)
			}
		}
	}
	checkArguments(t, nil, nil, nil)
	checkArguments(t, sample.Unit(5), []int{1, 2, 3, 4, 5}, []int{5, 4, 3, 2, 1})
	checkArguments(t, sample.Unit(6), []int{1, 2, 3, 4, 5, 6}, []int{1, 2, 3, 4, 5, 6})
	checkArguments(t, [][]int{{1, 2}, {3}}, []int{1, 2}, []int{1, 2})
}

// TestSharedArguments has rows and lists that are the same memory, or overlap.
func TestSharedArguments(t *testing.T) {
	line := sample.Mixed(1, 12, 14)[0]
	before := slices.Clone(line)
	for _, m := range [][][]int{
		{line[:5], line[3:8], line[2:7], line[7:12], line[1:6]},
		{line[:5], line[:5], line[2:7], line[7:12], line[1:6]},
		{line[:3], line[1:4], line[2:5]},
		{line[:2], line[:2]},
		{line[:1]},
	} {
		for range 2 {
			wantInverse(t, m)
			for _, u := range [][]int{m[0], line[12-len(m):], line[1 : 1+len(m)]} {
				wantFormula(t, m, u, u)
				wantFormula(t, m, u, line[:len(m)])
				got, _ := Change(m, u, u)
				if !sample.Spoil(got) {
					t.Fatal("rows of a result share memory")
				}
			}
			got, _ := Of(m)
			if !sample.Spoil(got) {
				t.Fatal("rows of a result share memory")
			}
			if !slices.Equal(line, before) {
				t.Fatalf("%v became %v", before, line)
			}
		}
	}
}
