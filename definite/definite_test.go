package definite

import (
	"math"
	"slices"
	"testing"

	"rankmere/api"
	"rankmere/plain"
	"rankmere/sample"
)

// kind returns what the chapter says of its matrices.
func kind() sample.Kind {
	return sample.Kind{Side: 4, Least: -9, Most: 9}
}

// points returns what the chapter says of the numbers of x.
func points() sample.Kind {
	return sample.Kind{Side: 4, Least: -100, Most: 100}
}

// wantIs fails the test unless Check has no error for a form, and Is tells this.
func wantIs(t *testing.T, m [][]int, want bool) {
	t.Helper()
	if err := Check(m); err != nil {
		t.Fatalf("Check(%v) = %v", m, err)
	}
	if got, err := Is(m); got != want || err != nil {
		t.Fatalf("Is(%v) = %v, %v, want %v", m, got, err, want)
	}
}

// wantAt fails the test unless the form has this value at x.
func wantAt(t *testing.T, m [][]int, x []int, want int) {
	t.Helper()
	if got, err := At(m, x); got != want || err != nil {
		t.Fatalf("At(%v, %v) = %d, %v, want %d", m, x, got, err, want)
	}
}

// wantProduct fails the test unless the form has the value that the products of
// x as a row, m, and x as a column give.
func wantProduct(t *testing.T, m [][]int, x []int) {
	t.Helper()
	row := [][]int{x}
	wantAt(t, m, x, sample.IntMul(sample.IntMul(row, m), sample.Turned(row))[0][0])
}

// wantMinors fails the test unless Is tells what the determinants of the first
// rows and columns say.
func wantMinors(t *testing.T, m [][]int) {
	t.Helper()
	want := true
	for size := 1; size <= len(m); size++ {
		first := sample.UpTo(size)
		want = want && sample.IntDet(sample.Part(m, first, first)) > 0
	}
	wantIs(t, m, want)
}

// wantForm fails the test unless both functions return what is computed in
// another way.
func wantForm(t *testing.T, m [][]int, x []int) {
	t.Helper()
	wantMinors(t, m)
	wantProduct(t, m, x)
}

// wantAtError fails the test unless At returns nothing but this error.
func wantAtError(t *testing.T, m [][]int, x []int, want api.Errno) {
	t.Helper()
	if got, err := At(m, x); got != 0 || plain.Told(err) != want {
		t.Fatalf("At(%v, %v) = %d, %v, want 0 and %v", m, x, got, err, want)
	}
}

// wantBad fails the test unless all functions return nothing but this error of m,
// whatever x is.
func wantBad(t *testing.T, m [][]int, want api.Errno) {
	t.Helper()
	if err := Check(m); plain.Told(err) != want {
		t.Fatalf("Check(%v) = %v, want %v", m, err, want)
	}
	if got, err := Is(m); got || plain.Told(err) != want {
		t.Fatalf("Is(%v) = %v, %v, want false and %v", m, got, err, want)
	}
	for _, x := range [][]int{nil, make([]int, len(m)), make([]int, len(m)+1), slices.Repeat([]int{101}, len(m))} {
		wantAtError(t, m, x, want)
	}
}

// mirrored returns the form that has the elements of m on its diagonal and above
// it.
func mirrored(m [][]int) [][]int {
	l := sample.Clone(m)
	for i, row := range l {
		for j := range i {
			row[j] = m[j][i]
		}
	}
	return l
}

// form returns a form of all elements; another seed makes another one.
func form(n, seed int) [][]int {
	return mirrored(kind().Mixed(n, n, seed))
}

// few returns a matrix of elements that are -1, 0 or 1.
func few(rows, columns, seed int) [][]int {
	return sample.Kind{Side: 4, Least: -1, Most: 1}.Mixed(rows, columns, seed)
}

// point returns numbers at which a form may be evaluated.
func point(n, seed int) []int {
	return points().Mixed(1, n, seed)[0]
}

// squares returns the form whose value at x is the sum of the squares of m*x.
func squares(m [][]int) [][]int {
	return sample.IntMul(sample.Turned(m), m)
}

// multiple returns m times a number.
func multiple(m [][]int, by int) [][]int {
	l := sample.Clone(m)
	for _, row := range l {
		for j := range row {
			row[j] *= by
		}
	}
	return l
}

func TestIs(t *testing.T) {
	for _, c := range []struct {
		m    [][]int
		want bool
	}{
		{[][]int{{2, 1}, {1, 1}}, true},
		{[][]int{{1}}, true},
		{[][]int{{9}}, true},
		{[][]int{{0}}, false},
		{[][]int{{-1}}, false},
		{[][]int{{-9}}, false},
		{[][]int{{1, 2}, {2, 1}}, false},
		{[][]int{{1, 2}, {2, 4}}, false},
		{[][]int{{1, 2}, {2, 5}}, true},
		{[][]int{{1, -2}, {-2, 5}}, true},
		{[][]int{{5, -2}, {-2, 1}}, true},
		{[][]int{{1, 0}, {0, 0}}, false},
		{[][]int{{0, 0}, {0, 1}}, false},
		{[][]int{{0, 1}, {1, 0}}, false},
		// The determinant of all rows is above 0, but the first minor is not.
		{[][]int{{-2, 1}, {1, -1}}, false},
		{[][]int{{-1, 0, 0}, {0, -1, 0}, {0, 0, 1}}, false},
		{[][]int{{0, 0, 1}, {0, -1, 0}, {1, 0, 0}}, false},
		// Only the second minor is not above 0.
		{[][]int{{1, 2, 3}, {2, 3, 7}, {3, 7, -9}}, false},
		{[][]int{{1, 2, 0}, {2, 4, 1}, {0, 1, 0}}, false},
		{[][]int{{1, 0, 0, 0}, {0, -1, 0, 0}, {0, 0, -1, 0}, {0, 0, 0, 1}}, false},
		// Only the last one is not.
		{[][]int{{2, -1, -1}, {-1, 2, -1}, {-1, -1, 2}}, false},
		{[][]int{{1, 0, 0, 0}, {0, 1, 0, 0}, {0, 0, 1, 0}, {0, 0, 0, 0}}, false},
		{[][]int{{1, 0, 0, 0}, {0, 1, 0, 0}, {0, 0, 1, 0}, {0, 0, 0, -1}}, false},
		{[][]int{{2, -1, 0}, {-1, 2, -1}, {0, -1, 2}}, true},
		{[][]int{{2, -1, 0, 0}, {-1, 2, -1, 0}, {0, -1, 2, -1}, {0, 0, -1, 2}}, true},
		{[][]int{{2, -1, 0, 0}, {-1, 2, -1, 0}, {0, -1, 2, -1}, {0, 0, -1, 1}}, true},
		{[][]int{{1, -1, 0, 0}, {-1, 2, -1, 0}, {0, -1, 2, -1}, {0, 0, -1, 1}}, false},
		{[][]int{{1, 1, 1, 1}, {1, 2, 2, 2}, {1, 2, 3, 3}, {1, 2, 3, 4}}, true},
		{[][]int{{9, 8, 8, 8}, {8, 9, 8, 8}, {8, 8, 9, 8}, {8, 8, 8, 9}}, true},
		{[][]int{{9, -3, -3, -3}, {-3, 9, -3, -3}, {-3, -3, 9, -3}, {-3, -3, -3, 9}}, false},
		{multiple(sample.Unit(4), 9), true},
	} {
		wantIs(t, c.m, c.want)
		wantForm(t, c.m, point(len(c.m), 1))
	}
}

func TestAt(t *testing.T) {
	for _, c := range []struct {
		m    [][]int
		x    []int
		want int
	}{
		{[][]int{{2, 1}, {1, 1}}, []int{1, 1}, 5},
		{[][]int{{2, 1}, {1, 1}}, []int{1, -1}, 1},
		{[][]int{{2, 1}, {1, 1}}, []int{1, 0}, 2},
		{[][]int{{2, 1}, {1, 1}}, []int{0, 1}, 1},
		{[][]int{{2, 1}, {1, 1}}, []int{0, 0}, 0},
		{[][]int{{2, 1}, {1, 1}}, []int{-3, 4}, 10},
		{[][]int{{1}}, []int{0}, 0},
		{[][]int{{1}}, []int{-100}, 10_000},
		{[][]int{{-1}}, []int{100}, -10_000},
		{[][]int{{9}}, []int{100}, 90_000},
		{[][]int{{0}}, []int{100}, 0},
		{[][]int{{0, 1}, {1, 0}}, []int{3, 5}, 30},
		{[][]int{{0, 1}, {1, 0}}, []int{3, -5}, -30},
		{[][]int{{1, 2, 3}, {2, 4, 5}, {3, 5, 6}}, []int{1, 10, 100}, 71_041},
		{sample.Filled(4, 4, 9), []int{100, 100, 100, 100}, 1_440_000},
		{sample.Filled(4, 4, -9), []int{-100, -100, -100, -100}, -1_440_000},
		{sample.Filled(4, 4, 9), []int{100, -100, 100, -100}, 0},
	} {
		wantAt(t, c.m, c.x, c.want)
		wantProduct(t, c.m, c.x)
	}
}

// TestAllPairs has all forms of one and two rows.
func TestAllPairs(t *testing.T) {
	for a := -9; a <= 9; a++ {
		wantIs(t, [][]int{{a}}, a > 0)
		for b := -9; b <= 9; b++ {
			for c := -9; c <= 9; c++ {
				m := [][]int{{a, b}, {b, c}}
				wantIs(t, m, a > 0 && a*c > b*b)
				wantAt(t, m, []int{1, 0}, a)
				wantAt(t, m, []int{0, -1}, c)
				wantAt(t, m, []int{1, -1}, a-2*b+c)
				wantAt(t, m, []int{-100, 7}, 10_000*a-1_400*b+49*c)
			}
		}
	}
}

// TestFewElements has all forms of three rows with few different elements.
func TestFewElements(t *testing.T) {
	for m := range sample.All(3, 3, 0, 1) {
		wantForm(t, mirrored(m), []int{1, -2, 3})
	}
	for diagonal := range sample.All(1, 3, -1, 0, 1, 2, 9) {
		for others := range sample.All(1, 3, -2, -1, 0, 1, 8) {
			a, b, c := diagonal[0][0], diagonal[0][1], diagonal[0][2]
			d, e, f := others[0][0], others[0][1], others[0][2]
			wantForm(t, [][]int{{a, d, e}, {d, b, f}, {e, f, c}}, []int{-3, 2, 5})
		}
	}
}

// TestAllSizes has forms of all elements, and such with a larger diagonal, of
// which there are more that are positive definite.
func TestAllSizes(t *testing.T) {
	for n := 1; n <= 4; n++ {
		count := 0
		for seed := range 500 {
			m, x := form(n, seed), point(n, seed)
			wantForm(t, m, x)
			for most := 1; most <= 4; most++ {
				m := mirrored(sample.Kind{Side: 4, Least: -most, Most: most}.Mixed(n, n, seed))
				wantForm(t, m, x)
				for i := range m {
					m[i][i] = 2 + (seed+i)%8
				}
				wantForm(t, m, x)
				if is, _ := Is(m); is {
					count++
				}
			}
		}
		if count == 0 || n > 1 && count == 2_000 {
			t.Errorf("%d forms of %d rows are positive definite", count, n)
		}
	}
}

// TestSquares has forms that are sums of squares, which are 0 somewhere else than
// at 0 only if their matrix has no full rank, and the same forms with another
// sign.
func TestSquares(t *testing.T) {
	for n := 1; n <= 4; n++ {
		for rows := 1; rows <= 4; rows++ {
			for seed := range 100 {
				by, x := few(rows, n, seed), point(n, seed)
				m := squares(by)
				wantIs(t, m, sample.Rank(by) == n)
				wantIs(t, multiple(m, -1), false)
				sum := 0
				for _, row := range sample.IntMul(by, sample.Turned([][]int{x})) {
					sum += row[0] * row[0]
				}
				wantAt(t, m, x, sum)
				wantAt(t, multiple(m, -1), x, -sum)
			}
		}
	}
}

// TestDiagonals has squares of single numbers alone.
func TestDiagonals(t *testing.T) {
	for n := 1; n <= 4; n++ {
		for numbers := range sample.All(1, n, -9, -1, 0, 1, 7) {
			m, sum := sample.Filled(n, n, 0), 0
			for i, k := range numbers[0] {
				m[i][i] = k
				sum += k * (i - 50) * (i - 50)
			}
			wantIs(t, m, slices.Min(numbers[0]) > 0)
			wantAt(t, m, []int{-50, -49, -48, -47}[:n], sum)
		}
	}
}

// TestValues compares Is with values of the form. At the cofactors of the last
// row of its first rows and columns, it is the product of their determinant and
// the one before, so that it is at most 0 at one of these places if it is not
// positive definite.
func TestValues(t *testing.T) {
	seen := 0
	for n := 1; n <= 4; n++ {
		for seed := range 2_000 {
			m := mirrored(few(n, n, seed))
			for i := range m {
				m[i][i] = 1 + (seed>>i)%3
			}
			want := true
			for size := 1; size <= n; size++ {
				x := cofactors(m, size)
				if slices.Max(x) > 100 || slices.Min(x) < -100 {
					t.Fatalf("of %v, there are cofactors %v", m, x)
				}
				value, err := At(m, x)
				if err != nil {
					t.Fatalf("At(%v, %v) has error %v", m, x, err)
				}
				if value <= 0 && slices.ContainsFunc(x, func(n int) bool { return n != 0 }) {
					want = false
				}
			}
			if !want {
				seen++
			}
			wantIs(t, m, want)
		}
	}
	if seen == 0 || seen == 8_000 {
		t.Errorf("%d forms are not positive definite", seen)
	}
}

// cofactors returns those of the last row of the first rows and columns of m, and
// zeros for all other columns.
func cofactors(m [][]int, size int) []int {
	first, x := sample.UpTo(size), make([]int, len(m))
	corner := sample.Part(m, first, first)
	for j := range size {
		x[j] = (1 - (size-1+j)%2*2) * sample.IntDet(sample.Without(corner, size-1, j))
	}
	return x
}

// TestSmallPoints evaluates forms that are positive definite, at which they are
// above 0, but for 0 itself.
func TestSmallPoints(t *testing.T) {
	for n := 1; n <= 4; n++ {
		count := 0
		for seed := range 200 {
			m := mirrored(few(n, n, seed))
			for i := range m {
				m[i][i] = 1 + (seed+i)%3
			}
			is, err := Is(m)
			if err != nil {
				t.Fatalf("Is(%v) has error %v", m, err)
			}
			if !is {
				continue
			}
			count++
			for x := range sample.All(1, n, -7, -1, 0, 1, 2) {
				value, err := At(m, x[0])
				zero := !slices.ContainsFunc(x[0], func(n int) bool { return n != 0 })
				if err != nil || value < 0 || (value == 0) != zero {
					t.Fatalf("At(%v, %v) = %d, %v, but it is positive definite", m, x[0], value, err)
				}
			}
		}
		if count == 0 {
			t.Errorf("no forms of %d rows are positive definite", n)
		}
	}
}

// TestOrders has the rows and the columns in all orders, which changes the minors
// but not what they say.
func TestOrders(t *testing.T) {
	for n := 1; n <= 4; n++ {
		for seed := range 20 {
			for _, m := range [][][]int{form(n, seed), squares(few(n, n, seed))} {
				want, err := Is(m)
				if err != nil {
					t.Fatalf("Is(%v) has error %v", m, err)
				}
				x := point(n, seed)
				value, err := At(m, x)
				if err != nil {
					t.Fatalf("At(%v, %v) has error %v", m, x, err)
				}
				for _, order := range sample.OrdersOf(n) {
					ordered := sample.Part(m, order, order)
					wantForm(t, ordered, x)
					wantIs(t, ordered, want)
					wantAt(t, ordered, sample.Part([][]int{x}, []int{0}, order)[0], value)
				}
			}
		}
	}
}

// TestElements has forms that are 0 but for one element, or two.
func TestElements(t *testing.T) {
	for n := 1; n <= 4; n++ {
		for i := range n {
			for j := range n {
				for k := -9; k <= 9; k++ {
					m, x := sample.With(n, n, i, j, k), point(n, 20+k)
					m[j][i] = k
					wantIs(t, m, n == 1 && k > 0)
					if i == j {
						wantAt(t, m, x, k*x[i]*x[i])
					} else {
						wantAt(t, m, x, 2*k*x[i]*x[j])
					}
					m = form(n, 20+k)
					m[i][j], m[j][i] = k, k
					wantForm(t, m, x)
				}
			}
		}
	}
}

// TestAllNumbers evaluates forms at all numbers that may be, at all places.
func TestAllNumbers(t *testing.T) {
	for n := 1; n <= 4; n++ {
		for i := range n {
			for k := -100; k <= 100; k++ {
				x := point(n, k+100)
				x[i] = k
				wantProduct(t, form(n, k+100), x)
				wantAt(t, form(n, 3), sample.With(1, n, 0, i, k)[0], form(n, 3)[i][i]*k*k)
			}
		}
	}
}

// TestBad has all lists that are no matrices.
func TestBad(t *testing.T) {
	for m, want := range kind().Bad() {
		wantBad(t, m, want)
	}
}

// TestNotSquare has matrices with more rows than columns and the other way
// round. All errors but that of a matrix that is not symmetric come before this
// one.
func TestNotSquare(t *testing.T) {
	for m, want := range kind().NotSquare() {
		wantBad(t, m, want)
	}
	wantBad(t, sample.Filled(2, 0, 0), api.ErrNone)
	wantBad(t, sample.Filled(5, 0, 0), api.ErrNone)
	wantBad(t, sample.Filled(1, 5, 0), api.ErrFull)
	wantBad(t, sample.Filled(5, 1, 0), api.ErrFull)
	wantBad(t, [][]int{{1, 2, 3}, {2, 4, 5}}, api.ErrShape)
	wantBad(t, [][]int{{1, 2}, {2, 4}, {3, 5}}, api.ErrShape)
	wantBad(t, [][]int{{1, 2}, {3, 4}, {5, 6}}, api.ErrShape)
	wantBad(t, [][]int{{1, 2}, {2, 4}, {3, 10}}, api.ErrRange)
	wantBad(t, [][]int{{1, 2}, {2, 4}, {3}}, api.ErrShape)
}

// TestTooLarge has symmetric matrices of more rows than a form may have, of which
// some have a determinant in package bareiss.
func TestTooLarge(t *testing.T) {
	for n := 5; n <= 8; n++ {
		wantBad(t, sample.Unit(n), api.ErrFull)
		wantBad(t, mirrored(kind().Mixed(n, n, 1)), api.ErrFull)
		wantBad(t, sample.Filled(n, n, 10), api.ErrFull)
		wantBad(t, kind().Mixed(n, n, 2), api.ErrFull)
	}
}

// TestNotSymmetric has matrices that are not symmetric at each place.
func TestNotSymmetric(t *testing.T) {
	for n := 2; n <= 4; n++ {
		for i := range n {
			for j := range n {
				if i == j {
					continue
				}
				for k := -9; k <= 9; k++ {
					for _, m := range [][][]int{form(n, 20+k), sample.Unit(n), sample.Filled(n, n, 0)} {
						if m[j][i] == k {
							continue
						}
						m[i][j] = k
						wantBad(t, m, api.ErrClash)
					}
				}
				// Only the sign is another one.
				m := form(n, 4)
				m[i][j], m[j][i] = 5, -5
				wantBad(t, m, api.ErrClash)
			}
		}
		for seed := range 50 {
			m := kind().Mixed(n, n, seed)
			m[n-1][0], m[0][n-1] = 2, 3
			wantBad(t, m, api.ErrClash)
		}
	}
	// The elements of all rows come first.
	wantBad(t, [][]int{{1, 2}, {3, 10}}, api.ErrRange)
	wantBad(t, [][]int{{1, 10}, {2, 3}}, api.ErrRange)
	wantBad(t, [][]int{{1, 2, 3}, {4, 5, 6}, {7, 8, -10}}, api.ErrRange)
	wantBad(t, [][]int{{1, 2, 3}, {4, 5, 6}, {7, 8}}, api.ErrShape)
}

// TestLimits has elements next to those that may be, at all places.
func TestLimits(t *testing.T) {
	for n := 1; n <= 4; n++ {
		for i := range n {
			for j := range n {
				for _, k := range kind().Outside() {
					m := form(n, 7)
					m[i][j] = k
					wantBad(t, m, api.ErrRange)
					m[j][i] = k
					wantBad(t, m, api.ErrRange)
				}
			}
		}
	}
}

// TestPointShape has too few numbers and too many. That comes before what they
// are.
func TestPointShape(t *testing.T) {
	for n := 1; n <= 4; n++ {
		for _, m := range [][][]int{form(n, 1), sample.Unit(n), sample.Filled(n, n, 0)} {
			for _, length := range []int{0, 1, 2, 3, 4, 5, 6, 100} {
				if length == n {
					continue
				}
				for _, k := range []int{0, 1, -100, 100, -101, 101} {
					wantAtError(t, m, slices.Repeat([]int{k}, length), api.ErrShape)
				}
			}
			// Spare capacity does not count.
			wantAtError(t, m, make([]int, n)[:n-1], api.ErrShape)
			wantAtError(t, m, nil, api.ErrShape)
		}
	}
}

// TestPointRange has a number that is too large or too small at each place.
func TestPointRange(t *testing.T) {
	for n := 1; n <= 4; n++ {
		for i := range n {
			for _, k := range points().Outside() {
				for _, m := range [][][]int{form(n, 1), sample.Unit(n), sample.Filled(n, n, 0)} {
					x := point(n, 2)
					x[i] = k
					wantAtError(t, m, x, api.ErrRange)
					wantAtError(t, m, sample.With(1, n, 0, i, k)[0], api.ErrRange)
				}
			}
		}
	}
	wantAtError(t, [][]int{{0}}, []int{math.MinInt}, api.ErrRange)
}

// TestPlaces checks the order of the places, and that no more of them come once
// a loop has ended.
func TestPlaces(t *testing.T) {
	want := [][]int{{0, 0}, {0, 1}, {0, 2}, {1, 1}, {1, 2}, {2, 2}}
	for many := range len(want) + 1 {
		var got [][]int
		for i, j := range places(3) {
			if len(got) == many {
				break
			}
			got = append(got, []int{i, j})
		}
		if !sample.Same(got, want[:many]) {
			t.Errorf("the first %d places are %v", many, got)
		}
	}
	for range places(0) {
		t.Error("there is a place without rows")
	}
}

// checkArguments calls all functions again and again, and checks that arguments
// stay as they are, with their spare capacity, and results too.
func checkArguments(t *testing.T, m [][]int, x []int) {
	t.Helper()
	// The list is one more row here, so that it is watched as well.
	all := sample.Spacious(append(slices.Clone(m), x))
	before := sample.Whole(all)
	m, x = all[:len(m):len(m)], all[len(m)]
	check := Check(m)
	is, isErr := Is(m)
	at, atErr := At(m, x)
	for range 2 {
		if err := Check(m); plain.Told(err) != plain.Told(check) {
			t.Fatalf("of %v, the errors are first %v and later %v", before, check, err)
		}
		if got, err := Is(m); got != is || plain.Told(err) != plain.Told(isErr) {
			t.Fatalf("of %v, the results are first %v, %v and later %v, %v", before, is, isErr, got, err)
		}
		if got, err := At(m, x); got != at || plain.Told(err) != plain.Told(atErr) {
			t.Fatalf("of %v, the results are first %v, %v and later %v, %v", before, at, atErr, got, err)
		}
	}
	if !sample.Same(sample.Whole(all), before) {
		t.Fatalf("arguments %v became %v", before, sample.Whole(all))
	}
}

func TestArguments(t *testing.T) {
	for rows, columns := range kind().Sizes() {
		for _, x := range [][]int{nil, make([]int, rows), point(rows, 3), point(rows+1, 4), slices.Repeat([]int{101}, rows)} {
			checkArguments(t, kind().Mixed(rows, columns, 1), x)
			checkArguments(t, form(rows, 2), x)
			checkArguments(t, squares(few(rows, columns, 3)), x)
			checkArguments(t, sample.Filled(rows, columns, 1), x)
			checkArguments(t, sample.Filled(rows, columns, 10), x)
		}
	}
	checkArguments(t, nil, nil)
	checkArguments(t, sample.Unit(4), []int{1, 2, 3, 4})
	checkArguments(t, sample.Unit(5), []int{1, 2, 3, 4, 5})
	checkArguments(t, [][]int{{1, 2}, {2}}, []int{1, 2})
}

// TestSharedArguments has rows that are the same memory as others, or as x, or
// overlap.
func TestSharedArguments(t *testing.T) {
	line := []int{4, 1, 2, 3, 4, 5, 6, 7}
	before := slices.Clone(line)
	for range 2 {
		for _, m := range [][][]int{
			{line[1:4], line[2:5], line[3:6]},
			{line[2:6], line[3:7], line[4:8], {5, 6, 7, 9}},
			{line[:2], line[1:3]},
			{{1, 2}, line[2:4]},
			{line[:1]},
		} {
			wantForm(t, m, m[0])
			wantForm(t, m, line[:len(m)])
		}
		same := []int{1, 1, 1}
		wantForm(t, [][]int{same, same, same}, same)
		if !slices.Equal(line, before) {
			t.Fatalf("%v became %v", before, line)
		}
	}
}
