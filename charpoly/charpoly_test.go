package charpoly

import (
	"slices"
	"testing"

	"rankmere/api"
	"rankmere/plain"
	"rankmere/sample"
)

// polynomial returns the characteristic polynomial without any values of it: the
// coefficient for the choice of x in all but some rows is, but for its sign, the
// sum of the determinants of these rows and the same columns.
func polynomial(m [][]int) []int {
	f := make([]int, len(m)+1)
	for many := range len(f) {
		sum := 0
		for _, places := range sample.Subsets(len(m), many) {
			sum += sample.Det(sample.Part(m, places, places))
		}
		f[len(m)-many] = sample.Element((1 - many%2*2) * sum)
	}
	return f
}

// atMatrix returns the value of a polynomial at a matrix.
func atMatrix(f []int, m [][]int) [][]int {
	sum, power := sample.Filled(len(m), len(m), 0), sample.Unit(len(m))
	for _, c := range f {
		for i, row := range power {
			for j, n := range row {
				sum[i][j] = (sum[i][j] + c*n) % 9_973
			}
		}
		power = sample.Mul(power, m)
	}
	return sum
}

// less returns x*I - m.
func less(x int, m [][]int) [][]int {
	l := sample.Filled(len(m), len(m), 0)
	for i, row := range m {
		for j, n := range row {
			l[i][j] = sample.Element(-n)
		}
		l[i][i] = sample.Element(x - row[i])
	}
	return l
}

// companion returns the matrix whose characteristic polynomial has these
// coefficients, and a 1 behind them.
func companion(f []int) [][]int {
	m := sample.Filled(len(f), len(f), 0)
	for i, row := range m {
		if i > 0 {
			row[i-1] = 1
		}
		row[len(f)-1] = sample.Element(-f[i])
	}
	return m
}

// wantTrace fails the test unless Trace returns this and no error.
func wantTrace(t *testing.T, m [][]int, want int) {
	t.Helper()
	if got, err := Trace(m); got != want || err != nil {
		t.Fatalf("Trace(%v) = %d, %v, want %d", m, got, err, want)
	}
}

// wantOf fails the test unless Of returns this and no error, and Trace what the
// coefficient before the last one says.
func wantOf(t *testing.T, m [][]int, want []int) {
	t.Helper()
	if got, err := Of(m); !slices.Equal(got, want) || err != nil {
		t.Fatalf("Of(%v) = %v, %v, want %v", m, got, err, want)
	}
	wantTrace(t, m, sample.Element(-want[len(m)-1]))
}

// wantRight fails the test unless Of and Trace return what is right for m.
func wantRight(t *testing.T, m [][]int) {
	t.Helper()
	wantOf(t, m, polynomial(m))
}

// wantBad fails the test unless both functions return nothing but this error.
func wantBad(t *testing.T, m [][]int, want api.Errno) {
	t.Helper()
	if got, err := Trace(m); got != 0 || plain.Told(err) != want {
		t.Fatalf("Trace(%v) = %d, %v, want 0 and %v", m, got, err, want)
	}
	if got, err := Of(m); len(got) != 0 || plain.Told(err) != want {
		t.Fatalf("Of(%v) = %v, %v, want nothing and %v", m, got, err, want)
	}
}

func TestTrace(t *testing.T) {
	for _, c := range []struct {
		m    [][]int
		want int
	}{
		{[][]int{{0}}, 0},
		{[][]int{{7}}, 7},
		{[][]int{{9_972}}, 9_972},
		{[][]int{{1, 0}, {0, 2}}, 3},
		{[][]int{{1, 2}, {3, 4}}, 5},
		{[][]int{{0, 2}, {3, 0}}, 0},
		{[][]int{{9_972, 5}, {6, 0}}, 9_972},
		{[][]int{{9_972, 5}, {6, 1}}, 0},
		{[][]int{{9_972, 5}, {6, 2}}, 1},
		{[][]int{{9_972, 5}, {6, 9_972}}, 9_971},
		{[][]int{{1, 2, 3}, {4, 5, 6}, {7, 8, 9}}, 15},
		{[][]int{{0, 0, 1}, {0, 0, 0}, {1, 0, 0}}, 0},
		{sample.Unit(5), 5},
		{sample.Filled(5, 5, 2), 10},
		{sample.Filled(5, 5, 9_972), 9_968},
	} {
		wantTrace(t, c.m, c.want)
		wantRight(t, c.m)
	}
}

func TestOf(t *testing.T) {
	for _, c := range []struct {
		m    [][]int
		want []int
	}{
		{[][]int{{2}}, []int{9_971, 1}},
		{[][]int{{0}}, []int{0, 1}},
		{[][]int{{1}}, []int{9_972, 1}},
		{[][]int{{9_972}}, []int{1, 1}},
		{[][]int{{1, 0}, {0, 2}}, []int{2, 9_970, 1}},
		{[][]int{{1, 2}, {3, 4}}, []int{9_971, 9_968, 1}},
		{[][]int{{1, 2}, {2, 4}}, []int{0, 9_968, 1}},
		{[][]int{{0, 1}, {0, 0}}, []int{0, 0, 1}},
		{[][]int{{0, 1}, {1, 0}}, []int{9_972, 0, 1}},
		{[][]int{{0, 9_972}, {1, 0}}, []int{1, 0, 1}},
		{[][]int{{9_972, 0}, {0, 9_972}}, []int{1, 2, 1}},
		// The determinant is 9973, and so 0 only modulo Prime.
		{[][]int{{100, 27}, {1, 100}}, []int{0, 9_773, 1}},
		{[][]int{{1, 2, 3}, {4, 5, 6}, {7, 8, 9}}, []int{0, 9_955, 9_958, 1}},
		{[][]int{{1, 2, 3}, {4, 5, 6}, {7, 8, 10}}, []int{3, 9_961, 9_957, 1}},
		{[][]int{{2, 0, 0}, {0, 3, 4}, {0, 4, 9}}, []int{9_951, 35, 9_959, 1}},
		{[][]int{{0, 1, 0}, {0, 0, 1}, {1, 0, 0}}, []int{9_972, 0, 0, 1}},
		{[][]int{{0, 0, 0, 0}, {1, 0, 0, 0}, {0, 1, 0, 0}, {0, 0, 1, 0}}, []int{0, 0, 0, 0, 1}},
		{[][]int{{1, 5, 6, 7}, {0, 2, 8, 9}, {0, 0, 3, 1}, {0, 0, 0, 4}}, []int{24, 9_923, 35, 9_963, 1}},
		{sample.Unit(4), []int{1, 9_969, 6, 9_969, 1}},
		{sample.Unit(5), []int{9_972, 5, 9_963, 10, 9_968, 1}},
		{sample.Filled(5, 5, 0), []int{0, 0, 0, 0, 0, 1}},
		{sample.Filled(5, 5, 1), []int{0, 0, 0, 0, 9_968, 1}},
		{sample.Filled(5, 5, 9_972), []int{0, 0, 0, 0, 5, 1}},
	} {
		wantOf(t, c.m, c.want)
		wantRight(t, c.m)
	}
}

// TestValues compares the polynomial with the definition, at more places than it
// has coefficients.
func TestValues(t *testing.T) {
	for n := 1; n <= 5; n++ {
		for seed := range 30 {
			m := sample.Mixed(n, n, seed)
			f, err := Of(m)
			if err != nil || len(f) != n+1 || f[n] != 1 {
				t.Fatalf("Of(%v) = %v, %v", m, f, err)
			}
			for _, x := range append(sample.UpTo(12), 4_986, 4_987, 9_971, 9_972, m[0][0], m[n-1][n-1]) {
				if got, want := sample.Value(f, x), sample.Det(less(x, m)); got != want {
					t.Fatalf("Of(%v) = %v, which is %d at %d, want %d", m, f, got, x, want)
				}
			}
		}
	}
}

// TestOwnValue puts the matrix into its own polynomial, which makes it 0.
func TestOwnValue(t *testing.T) {
	for n := 1; n <= 5; n++ {
		for seed := range 50 {
			m := sample.Mixed(n, n, seed)
			f, err := Of(m)
			if err != nil || len(f) != n+1 || f[n] != 1 {
				t.Fatalf("Of(%v) = %v, %v", m, f, err)
			}
			if got := atMatrix(f, m); !sample.Same(got, sample.Filled(n, n, 0)) {
				t.Fatalf("Of(%v) = %v, which is %v at the matrix", m, f, got)
			}
		}
	}
}

func TestPlainMatrices(t *testing.T) {
	for n := 1; n <= 5; n++ {
		for _, k := range []int{0, 1, 2, 4_986, 4_987, 9_971, 9_972} {
			times := sample.Filled(n, n, 0)
			for i := range n {
				times[i][i] = k
			}
			wantOf(t, times, sample.WithRoots(slices.Repeat([]int{k}, n)))
			// All elements equal: the rank is 1.
			roots := make([]int, n)
			roots[0] = n * k % 9_973
			wantOf(t, sample.Filled(n, n, k), sample.WithRoots(roots))
			for i := range n {
				for j := range n {
					roots[0] = 0
					if i == j {
						roots[0] = k
					}
					wantOf(t, sample.With(n, n, i, j, k), sample.WithRoots(roots))
				}
			}
		}
	}
}

// TestAllElements has all elements at all places of small matrices, and all of
// them as coefficients and traces.
func TestAllElements(t *testing.T) {
	for n := range 9_973 {
		minus := sample.Element(-n)
		wantOf(t, [][]int{{n}}, []int{minus, 1})
		wantOf(t, [][]int{{n, 0}, {5, 9_972}}, []int{minus, sample.Element(1 - n), 1})
		wantOf(t, [][]int{{0, n}, {1, 0}}, []int{minus, 0, 1})
		wantOf(t, [][]int{{3, 1}, {n, 4}}, []int{sample.Element(12 - n), 9_966, 1})
		wantOf(t, [][]int{{5, 7}, {4_000, n}}, []int{sample.Element(5*n - 28_000), sample.Element(-5 - n), 1})
	}
}

// TestAllSizes has matrices without zeros, and with elements of few kinds, of
// which there are more whose coefficients are 0.
func TestAllSizes(t *testing.T) {
	for n := 1; n <= 5; n++ {
		for seed := range 200 {
			wantRight(t, sample.Mixed(n, n, seed))
			wantRight(t, sample.Invertible(n, seed))
			for most := 1; most <= 3; most++ {
				wantRight(t, sample.Kind{Side: 5, Least: 0, Most: most}.Mixed(n, n, seed))
			}
		}
	}
}

// TestFewElements has all matrices of few rows and few different elements.
func TestFewElements(t *testing.T) {
	for _, c := range []struct {
		size     int
		elements []int
	}{
		{1, []int{0, 1, 2, 4_986, 4_987, 9_971, 9_972}},
		{2, []int{0, 1, 2, 4_986, 4_987, 9_971, 9_972}},
		{3, []int{0, 9_972}},
		{3, []int{1, 2}},
	} {
		for m := range sample.All(c.size, c.size, c.elements...) {
			wantRight(t, m)
		}
	}
}

// TestTriangles has zeros below or above the diagonal, whose elements are the
// roots then, as often as they are there.
func TestTriangles(t *testing.T) {
	for n := 1; n <= 5; n++ {
		for seed := range 20 {
			for few := 1; few <= n; few++ {
				low, up := sample.Mixed(n, n, seed), sample.Mixed(n, n, seed+100)
				roots := sample.Mixed(1, n, seed+200)[0]
				for i := range n {
					roots[i] = roots[i%few]
					clear(low[i][i+1:])
					clear(up[i][:i])
					low[i][i], up[i][i] = roots[i], roots[i]
				}
				wantOf(t, low, sample.WithRoots(roots))
				wantOf(t, up, sample.WithRoots(roots))
			}
		}
	}
}

// TestZerosOnDiagonal has only zeros on the diagonal, or on it and on one side of
// it, where all coefficients but the last one are 0.
func TestZerosOnDiagonal(t *testing.T) {
	for n := 1; n <= 5; n++ {
		for seed := range 20 {
			m := sample.Mixed(n, n, seed)
			for i := range n {
				m[i][i] = 0
			}
			wantTrace(t, m, 0)
			wantRight(t, m)
			for i := range n {
				clear(m[i][:i])
			}
			wantOf(t, m, sample.WithRoots(make([]int, n)))
		}
	}
}

// TestCompanions has matrices made from their polynomials, whose coefficients
// follow no plain rule, or are 0 but for one and the last one.
func TestCompanions(t *testing.T) {
	for n := 1; n <= 5; n++ {
		for seed := range 50 {
			f := sample.Mixed(1, n, seed)[0]
			wantOf(t, companion(f), append(f, 1))
			wantOf(t, sample.Turned(companion(f)), append(f, 1))
		}
		for place := range n {
			f := make([]int, n)
			for c := 0; c < 9_973; c += 1 + 6*n {
				f[place] = c
				wantOf(t, companion(f), append(f, 1))
			}
			f[place] = 9_972
			wantOf(t, companion(f), append(f, 1))
		}
	}
}

// TestBlocks has two matrices on the diagonal of another one, whose polynomials
// are multiplied.
func TestBlocks(t *testing.T) {
	for n := 1; n <= 4; n++ {
		for k := 1; n+k <= 5; k++ {
			for seed := range 20 {
				a, b := sample.Mixed(n, n, seed), sample.Mixed(k, k, seed+100)
				want := sample.Product(polynomial(a), polynomial(b))
				m := sample.Blocks(a, b, sample.Mixed(n, k, seed+200))
				wantOf(t, m, want)
				wantOf(t, sample.Turned(m), want)
			}
		}
	}
}

// TestForms has matrices of all ranks, whose polynomials have 0 as a root at
// least as often as the rank is less than the number of rows.
func TestForms(t *testing.T) {
	for n := 1; n <= 5; n++ {
		for rank := 0; rank <= n; rank++ {
			for _, pivots := range sample.Subsets(n, rank) {
				for seed := range 5 {
					form, change := sample.Form(pivots, sample.Mixed(n, n, seed)), sample.Invertible(n, seed)
					for _, m := range [][][]int{form, sample.Mul(change, form), sample.Mul(form, change)} {
						wantRight(t, m)
						f, _ := Of(m)
						if slices.ContainsFunc(f[:n-rank], func(c int) bool { return c != 0 }) {
							t.Fatalf("Of(%v) = %v, although the rank is %d", m, f, rank)
						}
					}
				}
			}
		}
	}
}

// TestSamePolynomial has the same polynomial for the product of two matrices in
// both orders, for the transpose, and for the same order of rows and columns.
func TestSamePolynomial(t *testing.T) {
	for n := 1; n <= 5; n++ {
		for seed := range 20 {
			a, b := sample.Mixed(n, n, seed), sample.Mixed(n, n, seed+100)
			want, err := Of(a)
			if err != nil {
				t.Fatal(err)
			}
			wantOf(t, sample.Turned(a), want)
			for _, order := range sample.OrdersOf(n) {
				wantOf(t, sample.Part(a, order, order), want)
			}
			want, err = Of(sample.Mul(a, b))
			if err != nil {
				t.Fatal(err)
			}
			wantOf(t, sample.Mul(b, a), want)
		}
	}
}

// TestPermutations has a one in each row and column, for all orders of the
// columns.
func TestPermutations(t *testing.T) {
	for n := 1; n <= 5; n++ {
		for _, order := range sample.OrdersOf(n) {
			m, fixed := sample.Filled(n, n, 0), 0
			for i, j := range order {
				m[i][j] = 1
				if i == j {
					fixed++
				}
			}
			wantTrace(t, m, fixed)
			wantRight(t, m)
		}
	}
}

// TestBad has all lists that are no matrices.
func TestBad(t *testing.T) {
	for m, want := range sample.Bad() {
		wantBad(t, m, want)
	}
}

// TestNotSquare has matrices with more rows than columns and the other way
// round. All other errors come before this one.
func TestNotSquare(t *testing.T) {
	for m, want := range sample.NotSquare() {
		wantBad(t, m, want)
	}
	wantBad(t, sample.Filled(1, 6, 0), api.ErrFull)
	wantBad(t, sample.Filled(6, 5, 0), api.ErrFull)
	wantBad(t, sample.Filled(2, 0, 0), api.ErrNone)
	wantBad(t, [][]int{{1, 2, 3}, {4}}, api.ErrShape)
	wantBad(t, [][]int{{1, 2}, {3, 4}, nil}, api.ErrShape)
	wantBad(t, [][]int{{1, 2}, {3, 4}, {-1, 5}}, api.ErrRange)
}

// checkArguments calls both functions again and again, and overwrites the
// results.
func checkArguments(t *testing.T, m [][]int) {
	t.Helper()
	m = sample.Spacious(m)
	before := sample.Whole(m)
	first, firstErr := Of(m)
	want := slices.Clone(first)
	trace, _ := Trace(m)
	for range 2 {
		next, err := Of(m)
		if !slices.Equal(next, want) || plain.Told(err) != plain.Told(firstErr) {
			t.Fatalf("of %v, the results are first %v, %v and later %v, %v", before, want, firstErr, next, err)
		}
		if next, err := Trace(m); next != trace || plain.Told(err) != plain.Told(firstErr) {
			t.Fatalf("of %v, the traces are first %d, %v and later %d, %v", before, trace, firstErr, next, err)
		}
		sample.Spoil([][]int{next})
		if !slices.Equal(first, want) {
			t.Fatalf("of %v, two results share memory", before)
		}
	}
	if !sample.Same(sample.Whole(m), before) {
		t.Fatalf("argument %v became %v", before, sample.Whole(m))
	}
	// What the caller does to the argument later is not seen in the result.
	sample.Spoil(m)
	if !slices.Equal(first, want) {
		t.Fatalf("of %v, the result shares memory with the argument", before)
	}
}

// TestArguments checks that matrices stay as they are, with their spare capacity,
// whatever is done to the results, and that results depend on nothing else.
func TestArguments(t *testing.T) {
	for rows, columns := range sample.Sizes() {
		checkArguments(t, sample.Mixed(rows, columns, 12))
		for _, n := range []int{0, 1, 9_972, 9_973} {
			checkArguments(t, sample.Filled(rows, columns, n))
		}
	}
	checkArguments(t, nil)
	checkArguments(t, sample.Unit(5))
	checkArguments(t, sample.Unit(6))
	checkArguments(t, [][]int{{1, 2}, {3}})
}

// TestSharedArguments has rows that are the same memory, or overlap.
func TestSharedArguments(t *testing.T) {
	line := sample.Mixed(1, 12, 14)[0]
	before := slices.Clone(line)
	for _, m := range [][][]int{
		{line[:5], line[3:8], line[2:7], line[7:12], line[1:6]},
		{line[:5], line[:5], line[2:7], line[7:12], line[1:6]},
		{line[:3], line[1:4], line[2:5]},
		{line[:2], line[:2]},
		{line[:1]},
	} {
		for range 2 {
			wantRight(t, m)
			got, _ := Of(m)
			sample.Spoil([][]int{got})
			if !slices.Equal(line, before) {
				t.Fatalf("%v became %v", before, line)
			}
		}
	}
}
