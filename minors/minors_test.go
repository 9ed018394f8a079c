package minors

import (
	"math"
	"slices"
	"testing"

	"rankmere/api"
	"rankmere/plain"
	"rankmere/sample"
)

// noPlaces returns numbers that are no rows or columns of a matrix of this size.
func noPlaces(size int) []int {
	return []int{
		-1, size, -2, size + 1, -size, -size - 1, 2 * size, 5, 6, 1_000, -1_000, 9_973,
		1 << 32, 1<<32 + 1, -1 << 32, math.MaxInt, math.MaxInt - 1, math.MinInt, math.MinInt + 1,
	}
}

// times returns the matrix whose elements are those of m times n.
func times(m [][]int, n int) [][]int {
	l := sample.Clone(m)
	for _, row := range l {
		for j := range row {
			row[j] = sample.Element(n * row[j])
		}
	}
	return l
}

// wantOf fails the test unless Of returns this and no error.
func wantOf(t *testing.T, m [][]int, i, j, want int) {
	t.Helper()
	if got, err := Of(m, i, j); got != want || err != nil {
		t.Fatalf("Of(%v, %d, %d) = %d, %v, want %d", m, i, j, got, err, want)
	}
}

// wantAdj fails the test unless Adj returns this and no error.
func wantAdj(t *testing.T, m, want [][]int) {
	t.Helper()
	if got, err := Adj(m); !sample.Same(got, want) || err != nil {
		t.Fatalf("Adj(%v) = %v, %v, want %v", m, got, err, want)
	}
}

// wantOfError fails the test unless Of returns nothing but this error.
func wantOfError(t *testing.T, m [][]int, i, j int, want api.Errno) {
	t.Helper()
	if got, err := Of(m, i, j); got != 0 || plain.Told(err) != want {
		t.Fatalf("Of(%v, %d, %d) = %d, %v, want 0 and %v", m, i, j, got, err, want)
	}
}

// wantBad fails the test unless both functions return nothing but this error,
// whatever row and column are left out.
func wantBad(t *testing.T, m [][]int, want api.Errno) {
	t.Helper()
	if got, err := Adj(m); len(got) != 0 || plain.Told(err) != want {
		t.Fatalf("Adj(%v) = %v, %v, want nothing and %v", m, got, err, want)
	}
	for _, i := range []int{0, 1, 4, -1, 5, math.MaxInt, math.MinInt} {
		for _, j := range []int{0, 1, 4, -1, 5, math.MaxInt, math.MinInt} {
			wantOfError(t, m, i, j, want)
		}
	}
}

// wantMinors fails the test unless Of returns all minors, as the expansion by the
// first row gives them, and Adj the matrix that they make. The products of this
// matrix and m are the determinant times the identity matrix.
func wantMinors(t *testing.T, m [][]int) {
	t.Helper()
	want := sample.Filled(len(m), len(m), 0)
	for i := range m {
		for j := range m {
			n := sample.Det(sample.Without(m, i, j))
			wantOf(t, m, i, j, n)
			want[j][i] = n
			if i%2 != j%2 {
				want[j][i] = sample.Element(-n)
			}
		}
	}
	wantAdj(t, m, want)
	product := times(sample.Unit(len(m)), sample.Det(m))
	got, _ := Adj(m)
	if !sample.Same(sample.Mul(m, got), product) || !sample.Same(sample.Mul(got, m), product) {
		t.Fatalf("Adj(%v) = %v, but the products are not all %v", m, got, product)
	}
}

func TestOf(t *testing.T) {
	two := [][]int{{1, 2}, {3, 4}}
	three := [][]int{{1, 2, 3}, {4, 5, 6}, {7, 8, 10}}
	four := [][]int{{2, 0, 0, 1}, {0, 3, 0, 0}, {0, 0, 5, 0}, {4, 0, 0, 7}}
	for _, c := range []struct {
		m          [][]int
		i, j, want int
	}{
		{[][]int{{5}}, 0, 0, 1},
		{[][]int{{0}}, 0, 0, 1},
		{[][]int{{9_972}}, 0, 0, 1},
		{two, 0, 0, 4},
		{two, 0, 1, 3},
		{two, 1, 0, 2},
		{two, 1, 1, 1},
		{three, 0, 0, 2},
		{three, 0, 1, 9_971},
		{three, 0, 2, 9_970},
		{three, 1, 0, 9_969},
		{three, 1, 1, 9_962},
		{three, 1, 2, 9_967},
		{three, 2, 0, 9_970},
		{three, 2, 1, 9_967},
		{three, 2, 2, 9_970},
		{four, 0, 0, 105},
		{four, 0, 3, 60},
		{four, 3, 0, 15},
		{four, 3, 3, 30},
		{four, 1, 1, 50},
		{four, 2, 2, 30},
		{four, 1, 2, 0},
		// The minor is 9973, and so 0 only modulo Prime.
		{[][]int{{7, 8, 9}, {100, 27, 5}, {1, 100, 6}}, 0, 2, 0},
		{sample.Unit(5), 0, 0, 1},
		{sample.Unit(5), 4, 4, 1},
		{sample.Unit(5), 0, 1, 0},
		{sample.Filled(5, 5, 9_972), 2, 3, 0},
	} {
		wantOf(t, c.m, c.i, c.j, c.want)
		wantMinors(t, c.m)
	}
}

func TestAdj(t *testing.T) {
	for _, c := range []struct{ m, want [][]int }{
		{[][]int{{7}}, [][]int{{1}}},
		{[][]int{{0}}, [][]int{{1}}},
		{[][]int{{9_972}}, [][]int{{1}}},
		{[][]int{{1, 2}, {3, 4}}, [][]int{{4, 9_971}, {9_970, 1}}},
		{[][]int{{9_972, 9_972}, {9_972, 9_972}}, [][]int{{9_972, 1}, {1, 9_972}}},
		{[][]int{{0, 0}, {0, 0}}, [][]int{{0, 0}, {0, 0}}},
		{[][]int{{0, 1}, {1, 0}}, [][]int{{0, 9_972}, {9_972, 0}}},
		{[][]int{{5, 0}, {0, 6}}, [][]int{{6, 0}, {0, 5}}},
		{[][]int{{0, 5}, {0, 0}}, [][]int{{0, 9_968}, {0, 0}}},
		{
			[][]int{{1, 2, 3}, {4, 5, 6}, {7, 8, 10}},
			[][]int{{2, 4, 9_970}, {2, 9_962, 6}, {9_970, 6, 9_970}},
		},
		{
			[][]int{{1, 2, 3}, {4, 5, 6}, {7, 8, 9}},
			[][]int{{9_970, 6, 9_970}, {6, 9_961, 6}, {9_970, 6, 9_970}},
		},
		{[][]int{{0, 1, 0}, {0, 0, 1}, {1, 0, 0}}, [][]int{{0, 0, 1}, {1, 0, 0}, {0, 1, 0}}},
		{[][]int{{2, 0, 0}, {0, 3, 0}, {0, 0, 5}}, [][]int{{15, 0, 0}, {0, 10, 0}, {0, 0, 6}}},
		{
			[][]int{{2, 0, 0, 1}, {0, 3, 0, 0}, {0, 0, 5, 0}, {4, 0, 0, 7}},
			[][]int{{105, 0, 0, 9_958}, {0, 50, 0, 0}, {0, 0, 30, 0}, {9_913, 0, 0, 30}},
		},
		{
			[][]int{{4, 1, 1, 1, 1}, {1, 4, 1, 1, 1}, {1, 1, 4, 1, 1}, {1, 1, 1, 4, 1}, {1, 1, 1, 1, 4}},
			[][]int{
				{189, 9_946, 9_946, 9_946, 9_946}, {9_946, 189, 9_946, 9_946, 9_946}, {9_946, 9_946, 189, 9_946, 9_946},
				{9_946, 9_946, 9_946, 189, 9_946}, {9_946, 9_946, 9_946, 9_946, 189},
			},
		},
	} {
		wantAdj(t, c.m, c.want)
		wantAdj(t, sample.Turned(c.m), sample.Turned(c.want))
		wantMinors(t, c.m)
	}
}

func TestPlainMatrices(t *testing.T) {
	for n := 1; n <= 5; n++ {
		for _, k := range []int{0, 1, 2, 4_986, 9_971, 9_972} {
			wantMinors(t, sample.Filled(n, n, k))
			power := 1
			for range n - 1 {
				power = power * k % 9_973
			}
			wantAdj(t, times(sample.Unit(n), k), times(sample.Unit(n), power))
			for i := range n {
				for j := range n {
					wantMinors(t, sample.With(n, n, i, j, k))
				}
			}
		}
	}
}

// TestAllElements has all elements at all places of the smallest matrices, and so
// all elements as results as well.
func TestAllElements(t *testing.T) {
	for n := range 9_973 {
		wantOf(t, [][]int{{n}}, 0, 0, 1)
		wantAdj(t, [][]int{{n}}, [][]int{{1}})
		for _, m := range [][][]int{{{n, 1}, {2, 3}}, {{1, n}, {2, 3}}, {{1, 2}, {n, 3}}, {{1, 2}, {3, n}}} {
			a, b, c, d := m[0][0], m[0][1], m[1][0], m[1][1]
			wantOf(t, m, 0, 0, d)
			wantOf(t, m, 0, 1, c)
			wantOf(t, m, 1, 0, b)
			wantOf(t, m, 1, 1, a)
			wantAdj(t, m, [][]int{{d, sample.Element(-b)}, {sample.Element(-c), a}})
		}
	}
}

// TestAllSizes has matrices without zeros, and with elements of few kinds, of
// which there are more whose minors are 0.
func TestAllSizes(t *testing.T) {
	for n := 1; n <= 5; n++ {
		for seed := range 50 {
			m := sample.Mixed(n, n, seed)
			wantMinors(t, m)
			for _, kinds := range []int{2, 3} {
				for _, row := range m {
					for j := range row {
						row[j] = (row[j]>>4%kinds + 9_972) % 9_973
					}
				}
				wantMinors(t, m)
			}
		}
	}
}

// TestFewElements has all matrices of few rows and few different elements.
func TestFewElements(t *testing.T) {
	for _, c := range []struct {
		size     int
		elements []int
	}{
		{2, []int{0, 1, 2, 4_986, 4_987, 9_971, 9_972}},
		{3, []int{0, 1, 9_972}},
	} {
		for m := range sample.All(c.size, c.size, c.elements...) {
			wantMinors(t, m)
		}
	}
}

// TestLeftOut changes the row and the column that are left out, on which the
// minor does not depend.
func TestLeftOut(t *testing.T) {
	for n := 1; n <= 5; n++ {
		m := sample.Mixed(n, n, 1)
		for i := range n {
			for j := range n {
				want := sample.Det(sample.Without(m, i, j))
				for seed := range 5 {
					changed, other := sample.Clone(m), sample.Mixed(n, n, seed+2)
					changed[i] = other[i]
					for k := range n {
						changed[k][j] = other[k][j]
					}
					wantOf(t, changed, i, j, want)
				}
			}
		}
	}
}

// TestForms has matrices of each form and so of each rank, and others of the
// same rank. The adjugate has the full rank, rank 1 or rank 0.
func TestForms(t *testing.T) {
	for n := 1; n <= 5; n++ {
		for rank := 0; rank <= n; rank++ {
			want := 0
			if rank == n {
				want = n
			} else if rank == n-1 {
				want = 1
			}
			for _, pivots := range sample.Subsets(n, rank) {
				for seed := range 5 {
					form, change := sample.Form(pivots, sample.Mixed(n, n, seed)), sample.Invertible(n, seed)
					for _, m := range [][][]int{form, sample.Mul(change, form), sample.Mul(form, change)} {
						wantMinors(t, m)
						if got, _ := Adj(m); sample.Rank(got) != want {
							t.Fatalf("Adj(%v) = %v, whose rank is not %d", m, got, want)
						}
					}
				}
			}
		}
	}
}

// TestProducts multiplies matrices, whose adjugates are multiplied the other way
// round.
func TestProducts(t *testing.T) {
	for n := 1; n <= 5; n++ {
		for seed := range 20 {
			a, b := sample.Mixed(n, n, seed), sample.Mixed(n, n, seed+100)
			first, err := Adj(a)
			if err != nil {
				t.Fatal(err)
			}
			second, err := Adj(b)
			if err != nil {
				t.Fatal(err)
			}
			wantAdj(t, sample.Mul(a, b), sample.Mul(second, first))
			wantAdj(t, sample.Turned(a), sample.Turned(first))
		}
	}
}

// TestOthers checks the order of the elements, and that no more of them come
// once a loop has ended.
func TestOthers(t *testing.T) {
	for size := range 6 {
		for out := -1; out <= size; out++ {
			var want []int
			for k := range size {
				if k != out {
					want = append(want, 10+k)
				}
			}
			for many := range len(want) + 1 {
				got := sample.First(others([]int{10, 11, 12, 13, 14}[:size], out), many)
				if !slices.Equal(got, want[:many]) {
					t.Fatalf("the first %d of %d elements without number %d are %v", many, size, out, got)
				}
			}
		}
	}
}

// TestBad has all lists that are no matrices.
func TestBad(t *testing.T) {
	for m, want := range sample.Bad() {
		wantBad(t, m, want)
	}
}

// TestNotSquare has matrices with more rows than columns and the other way
// round. All other errors of the matrix come before this one, and all of them
// before that of a row or a column.
func TestNotSquare(t *testing.T) {
	for m, want := range sample.NotSquare() {
		wantBad(t, m, want)
		for i := range m {
			for j := range m[i] {
				wantOfError(t, m, i, j, want)
			}
		}
	}
	wantBad(t, sample.Filled(1, 6, 0), api.ErrFull)
	wantBad(t, sample.Filled(6, 5, 0), api.ErrFull)
	wantBad(t, sample.Filled(2, 0, 0), api.ErrNone)
	wantBad(t, [][]int{{1, 2, 3}, {4}}, api.ErrShape)
	wantBad(t, [][]int{{1, 2}, {3, 4}, nil}, api.ErrShape)
	wantBad(t, [][]int{{1, 2}, {3, 4}, {-1, 5}}, api.ErrRange)
}

// TestNoPlace leaves out rows and columns that are not there.
func TestNoPlace(t *testing.T) {
	for n := 1; n <= 5; n++ {
		for _, m := range [][][]int{sample.Mixed(n, n, 1), sample.Unit(n), sample.Filled(n, n, 0)} {
			for _, k := range noPlaces(n) {
				if k >= 0 && k < n {
					continue
				}
				for place := range n {
					wantOfError(t, m, k, place, api.ErrRange)
					wantOfError(t, m, place, k, api.ErrRange)
				}
				for _, other := range noPlaces(n) {
					wantOfError(t, m, k, other, api.ErrRange)
				}
			}
		}
	}
}

// TestBadElementLeftOut has elements that are none of the field where a row or a
// column is left out.
func TestBadElementLeftOut(t *testing.T) {
	for n := 1; n <= 5; n++ {
		for i := range n {
			for j := range n {
				for _, bad := range sample.Outside() {
					m := sample.Mixed(n, n, 1)
					m[i][j] = bad
					for k := range n {
						wantOfError(t, m, i, k, api.ErrRange)
						wantOfError(t, m, k, j, api.ErrRange)
					}
				}
			}
		}
	}
}

// checkArguments calls both functions, and overwrites the results.
func checkArguments(t *testing.T, m [][]int) {
	t.Helper()
	m = sample.Spacious(m)
	before := sample.Whole(m)
	first, _ := Adj(m)
	want := sample.Clone(first)
	minor, _ := Of(m, 0, len(m)-1)
	second, _ := Adj(m)
	if !sample.Spoil(second) {
		t.Fatal("rows of a result share memory")
	}
	if !sample.Same(first, want) {
		t.Fatalf("of %v, two results share memory", before)
	}
	if !sample.Spoil(first) {
		t.Fatal("rows of a result share memory")
	}
	if third, _ := Adj(m); !sample.Same(third, want) {
		t.Fatalf("of %v, the results are first %v and later %v", before, want, third)
	}
	for i := -1; i <= len(m); i++ {
		for j := -1; j <= len(m); j++ {
			Of(m, i, j)
		}
	}
	if again, _ := Of(m, 0, len(m)-1); again != minor {
		t.Fatalf("of %v, the minors are first %d and later %d", before, minor, again)
	}
	if !sample.Same(sample.Whole(m), before) {
		t.Fatalf("argument %v became %v", before, sample.Whole(m))
	}
}

// TestArguments checks that matrices stay as they are, with their spare
// capacity, whatever is done to the results, and that results depend on nothing
// else.
func TestArguments(t *testing.T) {
	for rows, columns := range sample.Sizes() {
		checkArguments(t, sample.Mixed(rows, columns, 12))
		checkArguments(t, sample.Filled(rows, columns, 0))
		checkArguments(t, sample.Filled(rows, columns, 9_972))
		checkArguments(t, sample.Filled(rows, columns, 9_973))
	}
	checkArguments(t, nil)
	checkArguments(t, sample.Unit(5))
	checkArguments(t, sample.Unit(6))
	checkArguments(t, [][]int{{1, 2}, {3}})
}

// TestSharedArguments has rows that are the same memory, or overlap.
func TestSharedArguments(t *testing.T) {
	line := sample.Mixed(1, 12, 14)[0]
	before := slices.Clone(line)
	for _, m := range [][][]int{
		{line[:5], line[3:8], line[2:7], line[7:12], line[1:6]},
		{line[:5], line[:5], line[2:7], line[7:12], line[1:6]},
		{line[:3], line[1:4], line[2:5]},
		{line[:2], line[:2]},
	} {
		wantMinors(t, m)
		got, _ := Adj(m)
		if !sample.Spoil(got) {
			t.Fatal("rows of a result share memory")
		}
		wantMinors(t, m)
		if !slices.Equal(line, before) {
			t.Fatalf("%v became %v", before, line)
		}
	}
}
