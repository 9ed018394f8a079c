package gauss

import (
	"slices"
	"testing"

	"rankmere/api"
	"rankmere/plain"
	"rankmere/sample"
)

// reduced tells whether a matrix is in reduced row echelon form with these
// pivots.
func reduced(m [][]int, pivots []int) bool {
	for i, row := range m {
		first := slices.IndexFunc(row, func(n int) bool { return n != 0 })
		if i >= len(pivots) {
			if first >= 0 {
				return false
			}
			continue
		}
		if first != pivots[i] || row[first] != 1 || i > 0 && first <= pivots[i-1] {
			return false
		}
		for k, other := range m {
			if k != i && other[first] != 0 {
				return false
			}
		}
	}
	return len(pivots) <= len(m)
}

// wantSteps fails the test unless Steps and Rank return this and no error.
func wantSteps(t *testing.T, m, want [][]int, pivots ...int) {
	t.Helper()
	got, columns, err := Steps(m)
	if !sample.Same(got, want) || !slices.Equal(columns, pivots) || err != nil {
		t.Fatalf("Steps(%v) = %v, %v, %v, want %v, %v", m, got, columns, err, want, pivots)
	}
	if rank, err := Rank(m); rank != len(pivots) || err != nil {
		t.Fatalf("Rank(%v) = %d, %v, want %d", m, rank, err, len(pivots))
	}
}

// wantReduced fails the test unless Steps returns a reduced row echelon form
// whose rows span the same as those of m do, and Rank how many of them do so.
// There is only one such form.
func wantReduced(t *testing.T, m [][]int) {
	t.Helper()
	got, pivots, err := Steps(m)
	if err != nil || len(got) != len(m) || !reduced(got, pivots) {
		t.Fatalf("Steps(%v) = %v, %v, %v, which is not reduced", m, got, pivots, err)
	}
	for _, row := range got {
		if len(row) != len(m[0]) || slices.Min(row) < 0 || slices.Max(row) > 9_972 {
			t.Fatalf("Steps(%v) = %v", m, got)
		}
	}
	// A sum of multiples of the rows has the factors in the columns of the
	// pivots, so that there is only one that may be a row of m.
	factors := sample.Filled(len(m), len(m), 0)
	for i, row := range m {
		for k, pivot := range pivots {
			factors[i][k] = row[pivot]
		}
	}
	if product := sample.Mul(factors, got); !sample.Same(product, m) {
		t.Fatalf("Steps(%v) = %v, %v, whose rows only make %v", m, got, pivots, product)
	}
	if want := sample.Rank(m); len(pivots) != want {
		t.Fatalf("Steps(%v) = %v, %v, but the rank is %d", m, got, pivots, want)
	}
	if rank, err := Rank(m); rank != len(pivots) || err != nil {
		t.Fatalf("Rank(%v) = %d, %v, want %d", m, rank, err, len(pivots))
	}
}

// wantBad fails the test unless both functions return nothing but this error.
func wantBad(t *testing.T, m [][]int, want api.Errno) {
	t.Helper()
	if got, pivots, err := Steps(m); len(got) != 0 || len(pivots) != 0 || plain.Told(err) != want {
		t.Fatalf("Steps(%v) = %v, %v, %v, want nothing and %v", m, got, pivots, err, want)
	}
	if rank, err := Rank(m); rank != 0 || plain.Told(err) != want {
		t.Fatalf("Rank(%v) = %d, %v, want 0 and %v", m, rank, err, want)
	}
}

func TestSteps(t *testing.T) {
	for _, c := range []struct {
		m, want [][]int
		pivots  []int
	}{
		{[][]int{{1, 2}, {2, 4}}, [][]int{{1, 2}, {0, 0}}, []int{0}},
		{[][]int{{1, 2}, {3, 4}}, sample.Unit(2), []int{0, 1}},
		{[][]int{{0, 1}, {1, 0}}, sample.Unit(2), []int{0, 1}},
		{[][]int{{0, 3}, {0, 5}}, [][]int{{0, 1}, {0, 0}}, []int{1}},
		{[][]int{{0, 0}, {4, 8}}, [][]int{{1, 2}, {0, 0}}, []int{0}},
		{[][]int{{0, 0}, {0, 9_972}}, [][]int{{0, 1}, {0, 0}}, []int{1}},
		// One row or one column.
		{[][]int{{0}}, [][]int{{0}}, nil},
		{[][]int{{1}}, [][]int{{1}}, []int{0}},
		{[][]int{{9_972}}, [][]int{{1}}, []int{0}},
		{[][]int{{2, 1, 0, 4, 9_972}}, [][]int{{1, 4_987, 0, 2, 4_986}}, []int{0}},
		{[][]int{{0, 0, 3, 0, 6}}, [][]int{{0, 0, 1, 0, 2}}, []int{2}},
		{[][]int{{0, 0, 0, 0, 7}}, [][]int{{0, 0, 0, 0, 1}}, []int{4}},
		{[][]int{{0}, {0}, {5}, {0}, {9_972}}, [][]int{{1}, {0}, {0}, {0}, {0}}, []int{0}},
		{[][]int{{0}, {0}, {0}, {0}, {3}}, [][]int{{1}, {0}, {0}, {0}, {0}}, []int{0}},
		// More rows than columns, and the other way round.
		{[][]int{{1, 2}, {3, 4}, {5, 6}}, [][]int{{1, 0}, {0, 1}, {0, 0}}, []int{0, 1}},
		{[][]int{{1, 2}, {2, 4}, {3, 6}}, [][]int{{1, 2}, {0, 0}, {0, 0}}, []int{0}},
		{[][]int{{1, 2, 3}, {4, 5, 6}}, [][]int{{1, 0, 9_972}, {0, 1, 2}}, []int{0, 1}},
		{[][]int{{1, 2, 3}, {2, 4, 7}}, [][]int{{1, 2, 0}, {0, 0, 1}}, []int{0, 2}},
		// Rows that are sums or multiples of others.
		{[][]int{{1, 2, 3}, {4, 5, 6}, {7, 8, 9}}, [][]int{{1, 0, 9_972}, {0, 1, 2}, {0, 0, 0}}, []int{0, 1}},
		{[][]int{{1, 2, 3}, {2, 4, 6}, {0, 0, 1}}, [][]int{{1, 2, 0}, {0, 0, 1}, {0, 0, 0}}, []int{0, 2}},
		{[][]int{{0, 0, 0}, {1, 1, 1}, {2, 2, 2}}, [][]int{{1, 1, 1}, {0, 0, 0}, {0, 0, 0}}, []int{0}},
		// Columns without a pivot before, between and behind those with one.
		{
			[][]int{{0, 2, 4, 0, 6}, {0, 1, 2, 3, 4}, {0, 3, 6, 3, 10}},
			[][]int{{0, 1, 2, 0, 3}, {0, 0, 0, 1, 6_649}, {0, 0, 0, 0, 0}},
			[]int{1, 3},
		},
		{
			[][]int{{0, 0, 0, 1, 2}, {0, 1, 5, 1, 1}, {0, 0, 0, 0, 0}, {0, 0, 0, 0, 2}, {0, 1, 5, 2, 5}},
			[][]int{{0, 1, 5, 0, 0}, {0, 0, 0, 1, 0}, {0, 0, 0, 0, 1}, {0, 0, 0, 0, 0}, {0, 0, 0, 0, 0}},
			[]int{1, 3, 4},
		},
		{sample.Filled(5, 5, 9_972), append(sample.Filled(1, 5, 1), sample.Filled(4, 5, 0)...), []int{0}},
		{sample.Filled(5, 5, 0), sample.Filled(5, 5, 0), nil},
	} {
		wantSteps(t, c.m, c.want, c.pivots...)
		wantReduced(t, c.m)
		wantSteps(t, c.want, c.want, c.pivots...)
	}
}

// TestForms has a matrix of each form, and makes others from it by the addition
// of multiples of its rows, which does not change the form.
func TestForms(t *testing.T) {
	for rows, columns := range sample.Sizes() {
		for rank := 0; rank <= min(rows, columns); rank++ {
			for _, pivots := range sample.Subsets(columns, rank) {
				for seed := range 10 {
					want := sample.Form(pivots, sample.Mixed(rows, columns, seed))
					wantSteps(t, want, want, pivots...)
					wantSteps(t, sample.Mul(sample.Invertible(rows, seed), want), want, pivots...)
				}
				for _, n := range []int{0, 1, 9_972} {
					want := sample.Form(pivots, sample.Filled(rows, columns, n))
					wantSteps(t, want, want, pivots...)
					wantSteps(t, sample.Mul(sample.Invertible(rows, n), want), want, pivots...)
				}
			}
		}
	}
}

func TestAllSizes(t *testing.T) {
	for rows, columns := range sample.Sizes() {
		wantSteps(t, sample.Filled(rows, columns, 0), sample.Filled(rows, columns, 0))
		for seed := range 10 {
			m := sample.Mixed(rows, columns, seed)
			wantReduced(t, m)
			// With fewer different elements there are more ranks.
			for _, kinds := range []int{2, 3} {
				for _, row := range m {
					for j := range row {
						row[j] = (row[j]>>4%kinds + 9_972) % 9_973
					}
				}
				wantReduced(t, m)
			}
		}
	}
}

// TestSingleElements has the pivot at all places, also in rows below the first
// and in columns behind the first.
func TestSingleElements(t *testing.T) {
	for rows, columns := range sample.Sizes() {
		for i := range rows {
			for j := range columns {
				for _, n := range []int{1, 2, 4_986, 9_971, 9_972} {
					wantSteps(t, sample.With(rows, columns, i, j, n), sample.With(rows, columns, 0, j, 1), j)
				}
			}
		}
	}
}

// TestAllElements divides all elements by each other element.
func TestAllElements(t *testing.T) {
	for n := 1; n < 9_973; n++ {
		wantSteps(t, [][]int{{n}}, [][]int{{1}}, 0)
		wantSteps(t, [][]int{{n, n}, {1, 1}}, [][]int{{1, 1}, {0, 0}}, 0)
		got, _, _ := Steps([][]int{{n, 1}})
		if got[0][1]*n%9_973 != 1 {
			t.Fatalf("Steps({%d, 1}) = %v", n, got)
		}
	}
}

// TestFewElements has all matrices of two rows, and of three rows and columns,
// of few different elements.
func TestFewElements(t *testing.T) {
	for _, c := range []struct {
		rows, columns int
		elements      []int
	}{
		{2, 2, []int{0, 1, 2, 4_986, 9_971, 9_972}},
		{2, 3, []int{0, 1, 3, 9_972}},
		{3, 2, []int{0, 1, 3, 9_972}},
		{3, 3, []int{0, 1, 9_972}},
		{2, 5, []int{0, 1}},
		{5, 2, []int{0, 1}},
		{3, 4, []int{0, 1}},
		{4, 3, []int{0, 1}},
	} {
		for m := range sample.All(c.rows, c.columns, c.elements...) {
			wantReduced(t, m)
		}
	}
}

// TestFullRank has matrices whose form is the identity matrix, maybe with rows
// of zeros below it.
func TestFullRank(t *testing.T) {
	for rows, columns := range sample.Sizes() {
		if rows < columns {
			continue
		}
		pivots := []int{0, 1, 2, 3, 4}[:columns]
		want := append(sample.Unit(columns), sample.Filled(rows-columns, columns, 0)...)
		for seed := range 20 {
			m := sample.Invertible(rows, seed)
			for i := range m {
				m[i] = m[i][:columns]
			}
			wantSteps(t, m, want, pivots...)
		}
		wantSteps(t, want, want, pivots...)
	}
}

// TestOrders has the same rows in all orders.
func TestOrders(t *testing.T) {
	for _, m := range [][][]int{
		sample.Unit(5),
		sample.Filled(5, 5, 9_972),
		sample.Mixed(5, 5, 1),
		sample.Mixed(5, 2, 1),
		sample.Mixed(2, 5, 1),
		sample.Mixed(4, 4, 1),
		sample.Mul(sample.Mixed(5, 2, 2), sample.Mixed(2, 5, 3)),
		sample.Mul(sample.Mixed(5, 3, 4), sample.Mixed(3, 4, 5)),
		{{0, 0, 1}, {0, 2, 0}, {3, 0, 0}},
		{{0, 1, 2, 3, 4}, {0, 0, 0, 5, 6}, {0, 0, 0, 0, 0}, {0, 2, 4, 6, 8}, {0, 1, 2, 8, 10}},
		{{0}, {1}, {0}, {2}, {9_972}},
	} {
		want, pivots, err := Steps(m)
		if err != nil {
			t.Fatal(err)
		}
		for _, ordered := range sample.Orders(m) {
			wantSteps(t, ordered, want, pivots...)
		}
	}
}

func TestRank(t *testing.T) {
	for _, c := range []struct {
		m    [][]int
		want int
	}{
		{[][]int{{0}}, 0},
		{[][]int{{9_972}}, 1},
		{[][]int{{1, 2}, {2, 4}}, 1},
		{[][]int{{1, 2}, {2, 5}}, 2},
		{[][]int{{100, 100}, {1, 9_972}}, 2},
		// The second row is 100 times the first one, but only modulo Prime.
		{[][]int{{100, 101}, {27, 127}}, 1},
		{[][]int{{100, 101}, {27, 128}}, 2},
		{[][]int{{1, 2, 3}, {4, 5, 6}, {7, 8, 9}}, 2},
		{[][]int{{1, 2, 3}, {4, 5, 6}, {7, 8, 10}}, 3},
		{sample.Filled(5, 5, 0), 0},
		{sample.Filled(5, 5, 1), 1},
		{sample.Filled(1, 5, 9_972), 1},
		{sample.Filled(5, 1, 9_972), 1},
		{sample.Unit(5), 5},
	} {
		if got, err := Rank(c.m); got != c.want || err != nil {
			t.Errorf("Rank(%v) = %d, %v, want %d", c.m, got, err, c.want)
		}
	}
	for rows, columns := range sample.Sizes() {
		for between := 1; between <= 5; between++ {
			m := sample.Mul(sample.Mixed(rows, between, 1), sample.Mixed(between, columns, 2))
			if got, err := Rank(m); got != sample.Rank(m) || err != nil {
				t.Errorf("Rank(%v) = %d, %v, want %d", m, got, err, sample.Rank(m))
			}
		}
	}
}

// TestBad has all lists that are no matrices.
func TestBad(t *testing.T) {
	for m, want := range sample.Bad() {
		wantBad(t, m, want)
	}
}

// checkArguments calls both functions, and overwrites the results.
func checkArguments(t *testing.T, m [][]int) {
	t.Helper()
	m = sample.Spacious(m)
	before := sample.Whole(m)
	first, firstPivots, _ := Steps(m)
	want, wantPivots := sample.Clone(first), slices.Clone(firstPivots)
	second, secondPivots, _ := Steps(m)
	// The pivots are spoilt with the rows, so that they share no memory either.
	if !sample.Spoil(append(second[:len(second):len(second)], secondPivots)) {
		t.Fatal("rows of a result share memory")
	}
	if !sample.Same(first, want) || !slices.Equal(firstPivots, wantPivots) {
		t.Fatalf("of %v, two results share memory", before)
	}
	if !sample.Spoil(first) {
		t.Fatal("rows of a result share memory")
	}
	clear(firstPivots[:cap(firstPivots)])
	third, thirdPivots, _ := Steps(m)
	if !sample.Same(third, want) || !slices.Equal(thirdPivots, wantPivots) {
		t.Fatalf("of %v, the results are first %v, %v and later %v, %v", before, want, wantPivots, third, thirdPivots)
	}
	if rank, _ := Rank(m); rank != len(wantPivots) {
		t.Fatalf("Rank(%v) = %d, want %d", before, rank, len(wantPivots))
	}
	if !sample.Same(sample.Whole(m), before) {
		t.Fatalf("argument %v became %v", before, sample.Whole(m))
	}
}

// TestArguments checks that matrices stay as they are, with their spare
// capacity, whatever is done to the results, and that results depend on nothing
// else.
func TestArguments(t *testing.T) {
	for rows, columns := range sample.Sizes() {
		checkArguments(t, sample.Mixed(rows, columns, 12))
		checkArguments(t, sample.Filled(rows, columns, 0))
		checkArguments(t, sample.Filled(rows, columns, 1))
		checkArguments(t, sample.Filled(rows, columns, 9_973))
		for rank := range min(rows, columns) {
			for _, pivots := range sample.Subsets(columns, rank) {
				checkArguments(t, sample.Form(pivots, sample.Mixed(rows, columns, 13)))
			}
		}
	}
	checkArguments(t, nil)
	checkArguments(t, sample.Unit(5))
	checkArguments(t, sample.Unit(6))
	checkArguments(t, [][]int{{1, 2}, {3}})
}

// TestSharedArguments has rows that are the same memory, or overlap.
func TestSharedArguments(t *testing.T) {
	line := sample.Mixed(1, 12, 14)[0]
	before := slices.Clone(line)
	m := [][]int{line[:5], line[:5], line[2:7], line[7:12], line[1:6]}
	wantReduced(t, m)
	got, _, _ := Steps(m)
	if !sample.Spoil(got) {
		t.Fatal("rows of a result share memory")
	}
	wantReduced(t, m)
	if !slices.Equal(line, before) {
		t.Fatalf("%v became %v", before, line)
	}
}
