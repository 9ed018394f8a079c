package bareiss

import (
	"slices"
	"testing"

	"rankmere/api"
	"rankmere/plain"
	"rankmere/sample"
)

// kind returns what the chapter says of its matrices.
func kind() sample.Kind {
	return sample.Kind{Side: 5, Least: -9, Most: 9}
}

// wantLeading fails the test unless Check has no error for a matrix, Leading
// returns these numbers, and Of the last one.
func wantLeading(t *testing.T, m [][]int, want ...int) {
	t.Helper()
	if err := Check(m); err != nil {
		t.Fatalf("Check(%v) = %v", m, err)
	}
	if got, err := Leading(m); !slices.Equal(got, want) || err != nil {
		t.Fatalf("Leading(%v) = %v, %v, want %v", m, got, err, want)
	}
	wantOf(t, m, want[len(want)-1])
}

// wantOf fails the test unless Of returns this and no error.
func wantOf(t *testing.T, m [][]int, want int) {
	t.Helper()
	if got, err := Of(m); got != want || err != nil {
		t.Fatalf("Of(%v) = %d, %v, want %d", m, got, err, want)
	}
}

// wantExpanded fails the test unless the functions return what the expansions by
// the first row give.
func wantExpanded(t *testing.T, m [][]int) {
	t.Helper()
	var want []int
	for size := 1; size <= len(m); size++ {
		want = append(want, sample.IntDet(corner(m, size)))
	}
	wantLeading(t, m, want...)
}

// wantBad fails the test unless all functions return nothing but this error.
func wantBad(t *testing.T, m [][]int, want api.Errno) {
	t.Helper()
	if err := Check(m); plain.Told(err) != want {
		t.Fatalf("Check(%v) = %v, want %v", m, err, want)
	}
	if got, err := Of(m); got != 0 || plain.Told(err) != want {
		t.Fatalf("Of(%v) = %d, %v, want 0 and %v", m, got, err, want)
	}
	if got, err := Leading(m); len(got) != 0 || plain.Told(err) != want {
		t.Fatalf("Leading(%v) = %v, %v, want nothing and %v", m, got, err, want)
	}
}

// corner returns the first rows and columns of m.
func corner(m [][]int, size int) [][]int {
	var l [][]int
	for _, row := range m[:size] {
		l = append(l, row[:size])
	}
	return l
}

// few returns a matrix of elements that are -1, 0 or 1.
func few(rows, columns, seed int) [][]int {
	return sample.Kind{Side: 5, Least: -1, Most: 1}.Mixed(rows, columns, seed)
}

// triangles returns a matrix that has zeros above the diagonal, and one that has
// them below it, both with ones on the diagonal.
func triangles(n, seed int) (low, up [][]int) {
	low, up = few(n, n, seed), few(n, n, seed+500)
	for i := range n {
		low[i][i], up[i][i] = 1, 1
		clear(low[i][i+1:])
		clear(up[i][:i])
	}
	return low, up
}

func TestExamples(t *testing.T) {
	for _, c := range []struct {
		m    [][]int
		want []int
	}{
		{[][]int{{2, 1}, {1, 1}}, []int{2, 1}},
		{[][]int{{0}}, []int{0}},
		{[][]int{{-3}}, []int{-3}},
		{[][]int{{9}}, []int{9}},
		{[][]int{{-9}}, []int{-9}},
		{[][]int{{1, 2}, {3, 4}}, []int{1, -2}},
		{[][]int{{3, 4}, {1, 2}}, []int{3, 2}},
		{[][]int{{0, 2}, {3, 0}}, []int{0, -6}},
		{[][]int{{0, 2}, {-3, 5}}, []int{0, 6}},
		{[][]int{{0, 0}, {3, 4}}, []int{0, 0}},
		{[][]int{{0, 3}, {0, 4}}, []int{0, 0}},
		{[][]int{{2, 4}, {3, 6}}, []int{2, 0}},
		{[][]int{{9, -9}, {9, 9}}, []int{9, 162}},
		{[][]int{{-9, 9}, {9, 9}}, []int{-9, -162}},
		{[][]int{{1, 2, 3}, {4, 5, 6}, {7, 8, 9}}, []int{1, -3, 0}},
		{[][]int{{2, 3, 5}, {7, 1, 4}, {6, 8, 9}}, []int{2, -19, 87}},
		// Minors that are 0 do not end the list.
		{[][]int{{1, 2, 3}, {2, 4, 5}, {3, 7, 9}}, []int{1, 0, 1}},
		{[][]int{{0, 1, 2}, {1, 0, 3}, {4, 5, 0}}, []int{0, -1, 22}},
		{[][]int{{0, 0, 1}, {1, 0, 0}, {0, 1, 0}}, []int{0, 0, 1}},
		{[][]int{{0, 0, 2}, {0, 3, 0}, {5, 0, 0}}, []int{0, 0, -30}},
		{[][]int{{0, 0, 1}, {0, 1, 0}, {0, 0, 1}}, []int{0, 0, 0}},
		{[][]int{{0, 0, 0, 1}, {0, 0, 1, 0}, {0, 1, 0, 0}, {1, 0, 0, 0}}, []int{0, 0, 0, 1}},
		{[][]int{{2, 0, 0, 0}, {9, 3, 0, 0}, {8, 7, 5, 0}, {6, 5, 4, 7}}, []int{2, 6, 30, 210}},
		{[][]int{{-1, 0, 0, 0}, {0, -1, 0, 0}, {0, 0, -1, 0}, {0, 0, 0, -1}}, []int{-1, 1, -1, 1}},
		{[][]int{{4, 1, 1, 1, 1}, {1, 4, 1, 1, 1}, {1, 1, 4, 1, 1}, {1, 1, 1, 4, 1}, {1, 1, 1, 1, 4}}, []int{4, 15, 54, 189, 648}},
		{[][]int{{0, 0, 0, 0, 1}, {0, 0, 0, 1, 0}, {0, 0, 1, 0, 0}, {0, 1, 0, 0, 0}, {1, 0, 0, 0, 0}}, []int{0, 0, 0, 0, 1}},
		{[][]int{{0, 1, 0, 0, 0}, {0, 0, 1, 0, 0}, {0, 0, 0, 1, 0}, {0, 0, 0, 0, 1}, {-1, 0, 0, 0, 0}}, []int{0, 0, 0, 0, -1}},
		{[][]int{{0, 3, 1, 2, 5}, {-3, 0, 4, 6, 7}, {-1, -4, 0, 8, 9}, {-2, -6, -8, 0, 1}, {-5, -7, -9, -1, 0}}, []int{0, 9, 0, 676, 0}},
	} {
		wantLeading(t, c.m, c.want...)
		wantLeading(t, sample.Turned(c.m), c.want...)
		wantExpanded(t, c.m)
	}
}

// TestLargest has the largest determinants that there are, which are not reduced
// modulo Prime: elements of 9 and -9 at places of 1 and -1 in matrices whose
// determinants are 1, 2, 4, 16 and 48.
func TestLargest(t *testing.T) {
	for _, c := range []struct {
		m    [][]int
		want int
	}{
		{[][]int{{9}}, 9},
		{[][]int{{9, -9}, {9, 9}}, 162},
		{[][]int{{9, 9, -9}, {-9, 9, 9}, {9, -9, 9}}, 2_916},
		{[][]int{{9, 9, 9, 9}, {-9, 9, -9, 9}, {-9, -9, 9, 9}, {9, -9, -9, 9}}, 104_976},
		{[][]int{{9, -9, -9, -9, -9}, {-9, 9, -9, -9, -9}, {-9, -9, 9, -9, -9}, {-9, -9, -9, 9, -9}, {-9, -9, -9, -9, 9}}, -2_834_352},
	} {
		wantOf(t, c.m, c.want)
		wantExpanded(t, c.m)
		for i := range c.m {
			m := sample.Clone(c.m)
			for j := range m[i] {
				m[i][j] = -m[i][j]
			}
			wantOf(t, m, -c.want)
			wantExpanded(t, m)
		}
	}
}

func TestPlainMatrices(t *testing.T) {
	for n := 1; n <= 5; n++ {
		wantLeading(t, sample.Unit(n), slices.Repeat([]int{1}, n)...)
		for k := -9; k <= 9; k++ {
			filled := make([]int, n)
			filled[0] = k
			wantLeading(t, sample.Filled(n, n, k), filled...)
			diagonal, powers, power := sample.Filled(n, n, 0), make([]int, n), 1
			for i := range n {
				power *= k
				diagonal[i][i], powers[i] = k, power
			}
			wantLeading(t, diagonal, powers...)
			for i := range n {
				for j := range n {
					wantExpanded(t, sample.With(n, n, i, j, k))
					m := sample.Unit(n)
					m[i][j] = k
					wantExpanded(t, m)
				}
			}
		}
	}
}

// TestAllPairs has all matrices of two rows.
func TestAllPairs(t *testing.T) {
	for a := -9; a <= 9; a++ {
		wantLeading(t, [][]int{{a}}, a)
		for b := -9; b <= 9; b++ {
			for c := -9; c <= 9; c++ {
				for d := -9; d <= 9; d++ {
					wantLeading(t, [][]int{{a, b}, {c, d}}, a, a*d-b*c)
				}
			}
		}
	}
}

// TestFewElements has all matrices of few different elements.
func TestFewElements(t *testing.T) {
	for _, c := range []struct {
		size     int
		elements []int
	}{
		{3, []int{-1, 0, 1}},
		{3, []int{-9, 0, 4}},
		{4, []int{0, 1}},
		{4, []int{-9, 7}},
	} {
		for m := range sample.All(c.size, c.size, c.elements...) {
			wantExpanded(t, m)
		}
	}
}

// TestAllSizes has matrices of all elements, and of few of them, of which there
// are more whose minors are 0.
func TestAllSizes(t *testing.T) {
	for n := 1; n <= 5; n++ {
		for seed := range 500 {
			wantExpanded(t, kind().Mixed(n, n, seed))
			wantExpanded(t, few(n, n, seed))
			for most := 1; most <= 3; most++ {
				wantExpanded(t, sample.Kind{Side: 5, Least: 0, Most: most}.Mixed(n, n, seed))
			}
		}
	}
}

// TestZeroMinors has matrices for all lists of the minors that are not 0. The
// minors stay as they are if triangles with ones on the diagonal are multiplied
// from the left and from the right.
func TestZeroMinors(t *testing.T) {
	for n := 1; n <= 5; n++ {
		for many := 0; many <= n; many++ {
			for _, others := range sample.Subsets(n, many) {
				for seed := range 20 {
					m, minors := crossed(n, others, few(1, n, seed)[0])
					wantLeading(t, m, minors...)
					low, up := triangles(n, seed)
					wantLeading(t, sample.IntMul(low, m), minors...)
					wantLeading(t, sample.IntMul(m, up), minors...)
					wantLeading(t, sample.IntMul(sample.IntMul(low, m), up), minors...)
				}
			}
		}
	}
}

// crossed returns a matrix of blocks on its diagonal that end at these places,
// and the leading minors, which are 0 elsewhere. Each block has numbers that are
// not 0 from its right upper to its left lower corner.
func crossed(n int, ends, signs []int) (m [][]int, minors []int) {
	m, minors = sample.Filled(n, n, 0), make([]int, n)
	minor, from := 1, 0
	for _, end := range ends {
		var order []int
		for i := from; i <= end; i++ {
			j := from + end - i
			m[i][j] = 1
			if signs[i] < 0 {
				m[i][j] = -1
			}
			minor *= m[i][j]
			order = append(order, j)
		}
		minor *= sample.Sign(order)
		minors[end] = minor
		from = end + 1
	}
	if from < n-1 {
		// What is left is not 0 everywhere, but its first column is.
		m[from][n-1] = 1
	}
	return m, minors
}

// TestPermutations has one element in each row and column, for all orders of the
// columns.
func TestPermutations(t *testing.T) {
	for n := 1; n <= 5; n++ {
		for seed, order := range sample.OrdersOf(n) {
			numbers := kind().Mixed(1, n, seed)[0]
			ones, others := sample.Filled(n, n, 0), sample.Filled(n, n, 0)
			want := sample.Sign(order)
			for i, j := range order {
				ones[i][j] = 1
				others[i][j] = numbers[i]
				want *= numbers[i]
			}
			wantOf(t, ones, sample.Sign(order))
			wantOf(t, others, want)
			wantExpanded(t, ones)
			wantExpanded(t, others)
		}
	}
}

// TestOrders has the rows of a matrix, or its columns, in all orders.
func TestOrders(t *testing.T) {
	for n := 1; n <= 5; n++ {
		for seed := range 5 {
			m := kind().Mixed(n, n, seed)
			want := sample.IntDet(m)
			for _, order := range sample.OrdersOf(n) {
				var ordered [][]int
				for _, i := range order {
					ordered = append(ordered, m[i])
				}
				wantOf(t, ordered, sample.Sign(order)*want)
				wantExpanded(t, ordered)
				wantExpanded(t, sample.Turned(ordered))
			}
		}
	}
}

// TestTriangles has zeros below or above the diagonal, and zeros on the diagonal
// too.
func TestTriangles(t *testing.T) {
	for n := 1; n <= 5; n++ {
		for seed := range 50 {
			low, up := kind().Mixed(n, n, seed), few(n, n, seed+100)
			lowMinors, upMinors := make([]int, n), make([]int, n)
			lowMinor, upMinor := 1, 1
			for i := range n {
				clear(low[i][i+1:])
				clear(up[i][:i])
				lowMinor *= low[i][i]
				upMinor *= up[i][i]
				lowMinors[i], upMinors[i] = lowMinor, upMinor
			}
			wantLeading(t, low, lowMinors...)
			wantLeading(t, sample.Turned(low), lowMinors...)
			wantLeading(t, up, upMinors...)
			wantLeading(t, sample.Turned(up), upMinors...)
		}
	}
}

// TestProducts multiplies matrices, whose determinants are multiplied as well.
func TestProducts(t *testing.T) {
	for n := 1; n <= 5; n++ {
		for seed := range 100 {
			a, b := few(n, n, seed), few(n, n, seed+200)
			wantOf(t, sample.IntMul(a, b), sample.IntDet(a)*sample.IntDet(b))
			wantExpanded(t, sample.IntMul(a, b))
		}
	}
}

// TestRanks has matrices of less than full rank, whose determinants are 0, and so
// are all leading minors of more rows than the rank.
func TestRanks(t *testing.T) {
	for n := 2; n <= 5; n++ {
		for rank := 1; rank < n; rank++ {
			for seed := range 50 {
				m := sample.IntMul(few(n, rank, seed), few(rank, n, seed+300))
				wantOf(t, m, 0)
				wantExpanded(t, m)
				got, err := Leading(m)
				if err != nil {
					t.Fatalf("Leading(%v) has error %v", m, err)
				}
				for _, minor := range got[rank:] {
					if minor != 0 {
						t.Fatalf("Leading(%v) = %v, but its rank is at most %d", m, got, rank)
					}
				}
			}
		}
	}
}

// TestEqualRows has a row, or a column, twice, or a row of zeros.
func TestEqualRows(t *testing.T) {
	for n := 2; n <= 5; n++ {
		for i := range n {
			m := kind().Mixed(n, n, i)
			clear(m[i])
			wantOf(t, m, 0)
			wantOf(t, sample.Turned(m), 0)
			wantExpanded(t, m)
			wantExpanded(t, sample.Turned(m))
			for k := range i {
				m := kind().Mixed(n, n, i+k)
				m[i] = slices.Clone(m[k])
				wantOf(t, m, 0)
				wantOf(t, sample.Turned(m), 0)
				wantExpanded(t, m)
				wantExpanded(t, sample.Turned(m))
			}
		}
	}
}

// TestNotReduced has determinants that are multiples of Prime, but not 0, and
// others that are not in the field.
func TestNotReduced(t *testing.T) {
	wantOf(t, [][]int{{1, 9, 0, 0}, {0, 1, 9, 0}, {0, 0, 1, 9}, {9, 0, 0, 1}}, -6_560)
	wantOf(t, [][]int{{9, 0, 0, 0, 0}, {0, 9, 0, 0, 0}, {0, 0, 9, 0, 0}, {0, 0, 0, 9, 0}, {0, 0, 0, 0, 9}}, 59_049)
	// The last row has the digits of the determinant in base 9, as the others make
	// the number in each column count 9 times as much as the one before.
	for _, sign := range []int{1, -1} {
		for want := 9_973; want < 59_049; want += 9_973 {
			m := [][]int{{9, -1, 0, 0, 0}, {0, 9, -1, 0, 0}, {0, 0, 9, -1, 0}, {0, 0, 0, 9, -1}, {0, 0, 0, 0, 0}}
			rest := want
			for j := range m[4] {
				m[4][j] = sign * (rest % 9)
				rest /= 9
			}
			wantOf(t, m, sign*want)
			wantExpanded(t, m)
		}
	}
}

// TestBad has all lists that are no matrices.
func TestBad(t *testing.T) {
	for m, want := range kind().Bad() {
		wantBad(t, m, want)
	}
}

// TestNotSquare has matrices with more rows than columns and the other way
// round. All other errors come before this one.
func TestNotSquare(t *testing.T) {
	for m, want := range kind().NotSquare() {
		wantBad(t, m, want)
	}
	wantBad(t, sample.Filled(1, 6, 0), api.ErrFull)
	wantBad(t, sample.Filled(6, 5, 0), api.ErrFull)
	wantBad(t, sample.Filled(2, 0, 0), api.ErrNone)
	// As many elements as a square matrix has do not help.
	wantBad(t, [][]int{{1, 2, 3}, {4}}, api.ErrShape)
	wantBad(t, [][]int{{1, 2}, {3, 4}, nil}, api.ErrShape)
	wantBad(t, [][]int{{1, 2}, {3, 4}, {10, 5}}, api.ErrRange)
	wantBad(t, [][]int{{1, 2}, {3, 4}, {5, -10}}, api.ErrRange)
}

// TestLimits has all elements that may be at all places, and those next to them.
func TestLimits(t *testing.T) {
	for n := 1; n <= 5; n++ {
		for i := range n {
			for j := range n {
				for k := -9; k <= 9; k++ {
					m := kind().Mixed(n, n, k+20)
					m[i][j] = k
					wantExpanded(t, m)
				}
				for _, k := range []int{-10, 10} {
					m := kind().Mixed(n, n, 7)
					m[i][j] = k
					wantBad(t, m, api.ErrRange)
				}
			}
		}
	}
}

// checkArguments calls all functions again and again, and checks that arguments
// stay as they are, with their spare capacity, and results too.
func checkArguments(t *testing.T, m [][]int) {
	t.Helper()
	m = sample.Spacious(m)
	before := sample.Whole(m)
	first, err := Leading(m)
	want := slices.Clone(first)
	for range 2 {
		got, again := Leading(m)
		if !slices.Equal(got, want) || plain.Told(again) != plain.Told(err) {
			t.Fatalf("of %v, the results are first %v, %v and later %v, %v", before, want, err, got, again)
		}
		if again := Check(m); plain.Told(again) != plain.Told(err) {
			t.Fatalf("of %v, the errors are first %v and later %v", before, err, again)
		}
		if err == nil {
			wantOf(t, m, want[len(want)-1])
		}
		for i := range got[:cap(got)] {
			got[:cap(got)][i] = -77
		}
	}
	if !sample.Same(sample.Whole(m), before) {
		t.Fatalf("%v became %v", before, sample.Whole(m))
	}
	if !slices.Equal(first, want) {
		t.Fatalf("of %v, the result %v became %v", before, want, first)
	}
	sample.Spoil(m)
	if !slices.Equal(first, want) {
		t.Fatalf("the result %v became %v with the argument", want, first)
	}
}

func TestArguments(t *testing.T) {
	for rows, columns := range kind().Sizes() {
		for seed := range 10 {
			checkArguments(t, kind().Mixed(rows, columns, seed))
			checkArguments(t, few(rows, columns, seed))
		}
		checkArguments(t, sample.Filled(rows, columns, 0))
		checkArguments(t, sample.Filled(rows, columns, 1))
		checkArguments(t, sample.Filled(rows, columns, 10))
	}
	checkArguments(t, nil)
	checkArguments(t, sample.Unit(5))
	checkArguments(t, sample.Unit(6))
	checkArguments(t, [][]int{{1, 2}, {3}})
}

// TestSharedArguments has rows that are the same memory, or overlap.
func TestSharedArguments(t *testing.T) {
	line := kind().Mixed(1, 12, 14)[0]
	before := slices.Clone(line)
	for range 2 {
		wantExpanded(t, [][]int{line[:5], line[7:12], line[2:7], line[4:9], line[1:6]})
		wantOf(t, [][]int{line[:5], line[:5], line[2:7], line[7:12], line[1:6]}, 0)
		if !slices.Equal(line, before) {
			t.Fatalf("%v became %v", before, line)
		}
	}
}
