package hermite

import (
	"math"
	"slices"
	"testing"

	"rankmere/api"
	"rankmere/plain"
	"rankmere/sample"
)

// mostSide is how many rows there may be.
const mostSide = 3

// kind returns what the chapter says of its matrices.
func kind() sample.Kind {
	return sample.Kind{Side: mostSide, Least: -20, Most: 20}
}

// points returns what the chapter says of the numbers of x.
func points() sample.Kind {
	return sample.Kind{Side: mostSide, Least: -100, Most: 100}
}

// few returns a matrix of elements that are -1, 0 or 1.
func few(n, seed int) [][]int {
	return sample.Kind{Side: mostSide, Least: -1, Most: 1}.Mixed(n, n, seed)
}

// point returns numbers that may be in a lattice.
func point(n, seed int) []int {
	return points().Mixed(1, n, seed)[0]
}

// normal tells whether m is a Hermite normal form.
func normal(m [][]int) bool {
	for i, row := range m {
		for j, n := range row {
			switch {
			case j < i && n != 0, j == i && n <= 0, j > i && (n < 0 || n >= m[j][j]):
				return false
			}
		}
	}
	return true
}

// sameLattice tells whether two matrices, whose determinants are not 0, have the
// same row lattice: each has the rows of the other one.
func sameLattice(a, b [][]int) bool {
	for i := range a {
		if !sample.InLattice(a, b[i]) || !sample.InLattice(b, a[i]) {
			return false
		}
	}
	return true
}

// wantForm fails the test unless Form returns this and no error, and Check has no
// error.
func wantForm(t *testing.T, m, want [][]int) {
	t.Helper()
	if err := Check(m); err != nil {
		t.Fatalf("Check(%v) = %v", m, err)
	}
	if got, err := Form(m); !sample.Same(got, want) || err != nil {
		t.Fatalf("Form(%v) = %v, %v, want %v", m, got, err, want)
	}
}

// wantNormal fails the test unless Form returns a normal form that has the same
// row lattice as m, and Check has no error. There is only one such form. If the
// determinant of m is 0, all functions should have the error for that.
func wantNormal(t *testing.T, m [][]int) {
	t.Helper()
	if sample.IntDet(m) == 0 {
		wantBad(t, m, api.ErrClash)
		return
	}
	if err := Check(m); err != nil {
		t.Fatalf("Check(%v) = %v", m, err)
	}
	got, err := Form(m)
	if err != nil || len(got) != len(m) || len(slices.Concat(got...)) != len(m)*len(m) {
		t.Fatalf("Form(%v) = %v, %v", m, got, err)
	}
	if !normal(got) || !sameLattice(m, got) {
		t.Fatalf("Form(%v) = %v", m, got)
	}
}

// wantSame fails the test unless Same tells this of two matrices in both orders.
func wantSame(t *testing.T, m, k [][]int, want bool) {
	t.Helper()
	if got, err := Same(m, k); got != want || err != nil {
		t.Fatalf("Same(%v, %v) = %v, %v, want %v", m, k, got, err, want)
	}
	if got, err := Same(k, m); got != want || err != nil {
		t.Fatalf("Same(%v, %v) = %v, %v, want %v", k, m, got, err, want)
	}
}

// wantHas fails the test unless Has tells this.
func wantHas(t *testing.T, m [][]int, x []int, want bool) {
	t.Helper()
	if got, err := Has(m, x); got != want || err != nil {
		t.Fatalf("Has(%v, %v) = %v, %v, want %v", m, x, got, err, want)
	}
}

// wantCramer fails the test unless Has tells what the rule of Cramer says.
func wantCramer(t *testing.T, m [][]int, x []int) {
	t.Helper()
	wantHas(t, m, x, sample.InLattice(m, x))
}

// wantSameError fails the test unless Same returns nothing but this error.
func wantSameError(t *testing.T, m, k [][]int, want api.Errno) {
	t.Helper()
	if got, err := Same(m, k); got || plain.Told(err) != want {
		t.Fatalf("Same(%v, %v) = %v, %v, want false and %v", m, k, got, err, want)
	}
}

// wantHasError fails the test unless Has returns nothing but this error.
func wantHasError(t *testing.T, m [][]int, x []int, want api.Errno) {
	t.Helper()
	if got, err := Has(m, x); got || plain.Told(err) != want {
		t.Fatalf("Has(%v, %v) = %v, %v, want false and %v", m, x, got, err, want)
	}
}

// wantBad fails the test unless all functions return nothing but this error of m,
// whatever else they are given, unless that comes before m.
func wantBad(t *testing.T, m [][]int, want api.Errno) {
	t.Helper()
	if err := Check(m); plain.Told(err) != want {
		t.Fatalf("Check(%v) = %v, want %v", m, err, want)
	}
	if got, err := Form(m); len(got) != 0 || plain.Told(err) != want {
		t.Fatalf("Form(%v) = %v, %v, want nothing and %v", m, got, err, want)
	}
	for n := 1; n <= mostSide; n++ {
		wantSameError(t, m, sample.Unit(n), want)
		wantSameError(t, sample.Unit(n), m, want)
	}
	wantSameError(t, m, m, want)
	for _, k := range badMatrices() {
		wantSameError(t, m, k, want)
	}
	for _, x := range [][]int{nil, make([]int, len(m)), make([]int, len(m)+1), slices.Repeat([]int{101}, len(m))} {
		wantHasError(t, m, x, want)
	}
}

// badMatrices returns a matrix for each error.
func badMatrices() [][][]int {
	return [][][]int{nil, sample.Unit(4), {{1, 0}, {0}}, {{21}}, {{1, 2}}, {{0}}}
}

// forms returns all normal forms that have at most this on their diagonals.
func forms(n, most int) [][][]int {
	var l [][][]int
	numbers := sample.UpTo(most + 1)
	for above := range sample.All(1, n*(n+1)/2, numbers...) {
		m, rest := sample.Filled(n, n, 0), above[0]
		for i := range n {
			copy(m[i][i:], rest)
			rest = rest[n-i:]
		}
		if normal(m) {
			l = append(l, m)
		}
	}
	return l
}

func TestForm(t *testing.T) {
	for _, c := range []struct {
		m, want [][]int
	}{
		{[][]int{{1, 0}, {0, 2}}, [][]int{{1, 0}, {0, 2}}},
		{[][]int{{2, 1}, {1, 1}}, [][]int{{1, 0}, {0, 1}}},
		{[][]int{{4, 6}, {6, 4}}, [][]int{{2, 8}, {0, 10}}},
		{[][]int{{3, 5}, {0, 7}}, [][]int{{3, 5}, {0, 7}}},
		{[][]int{{3, -5}, {0, 7}}, [][]int{{3, 2}, {0, 7}}},
		{[][]int{{3, 14}, {0, 7}}, [][]int{{3, 0}, {0, 7}}},
		{[][]int{{3, -14}, {0, -7}}, [][]int{{3, 0}, {0, 7}}},
		{[][]int{{3, 0}, {5, 7}}, [][]int{{1, 14}, {0, 21}}},
		{[][]int{{2, 4}, {3, 5}}, [][]int{{1, 1}, {0, 2}}},
		{[][]int{{0, 1}, {1, 0}}, [][]int{{1, 0}, {0, 1}}},
		{[][]int{{0, 2}, {3, 0}}, [][]int{{3, 0}, {0, 2}}},
		{[][]int{{0, 2}, {3, 1}}, [][]int{{3, 1}, {0, 2}}},
		{[][]int{{0, -2}, {-3, -1}}, [][]int{{3, 1}, {0, 2}}},
		{[][]int{{6, 1}, {4, 1}}, [][]int{{2, 0}, {0, 1}}},
		{[][]int{{6, 1}, {4, 0}}, [][]int{{2, 1}, {0, 2}}},
		{[][]int{{12, 7}, {18, 5}}, [][]int{{6, 9}, {0, 11}}},
		{[][]int{{20, -20}, {20, 20}}, [][]int{{20, 20}, {0, 40}}},
		{[][]int{{19, 20}, {20, 19}}, [][]int{{1, 38}, {0, 39}}},
		{[][]int{{20, 19}, {19, 18}}, [][]int{{1, 0}, {0, 1}}},
		{[][]int{{2, 3, 5}, {7, 1, 4}, {6, 8, 9}}, [][]int{{1, 0, 37}, {0, 1, 6}, {0, 0, 87}}},
		{[][]int{{1, 2, 3}, {4, 5, 6}, {7, 8, 10}}, [][]int{{1, 2, 0}, {0, 3, 0}, {0, 0, 1}}},
		{[][]int{{0, 0, 2}, {0, 3, 0}, {5, 0, 0}}, [][]int{{5, 0, 0}, {0, 3, 0}, {0, 0, 2}}},
		{[][]int{{0, 4, 0}, {0, 0, 6}, {9, 0, 0}}, [][]int{{9, 0, 0}, {0, 4, 0}, {0, 0, 6}}},
		{[][]int{{0, 0, -1}, {0, -1, 0}, {-1, 0, 0}}, [][]int{{1, 0, 0}, {0, 1, 0}, {0, 0, 1}}},
		{[][]int{{2, 1, 1}, {1, 2, 1}, {1, 1, 2}}, [][]int{{1, 0, 3}, {0, 1, 3}, {0, 0, 4}}},
		{[][]int{{6, 10, 15}, {10, 15, 6}, {15, 6, 10}}, [][]int{{1, 0, 929}, {0, 1, 1_146}, {0, 0, 1_891}}},
		{[][]int{{20, 20, -20}, {-20, 20, 20}, {20, -20, 20}}, [][]int{{20, 20, 20}, {0, 40, 0}, {0, 0, 40}}},
		{[][]int{{20, 19, 18}, {19, 18, 17}, {18, 17, 15}}, [][]int{{1, 0, 0}, {0, 1, 0}, {0, 0, 1}}},
		{[][]int{{2, 0, 0}, {1, 2, 0}, {1, 1, 2}}, [][]int{{1, 0, 4}, {0, 1, 6}, {0, 0, 8}}},
		{[][]int{{4, -7, 9}, {-6, 8, -5}, {10, 3, -2}}, [][]int{{2, 0, 83}, {0, 1, 87}, {0, 0, 226}}},
		{[][]int{{6, 4, 0}, {4, 6, 0}, {0, 0, 5}}, [][]int{{2, 8, 0}, {0, 10, 0}, {0, 0, 5}}},
		// A row above is reduced by the row of each column in turn.
		{[][]int{{3, 1, 7}, {0, 2, 5}, {0, 0, 4}}, [][]int{{3, 1, 3}, {0, 2, 1}, {0, 0, 4}}},
		{[][]int{{3, -1, -7}, {0, 2, -5}, {0, 0, 4}}, [][]int{{3, 1, 0}, {0, 2, 3}, {0, 0, 4}}},
	} {
		wantForm(t, c.m, c.want)
		wantNormal(t, c.m)
	}
}

func TestSame(t *testing.T) {
	for _, c := range []struct {
		m, k [][]int
		want bool
	}{
		{[][]int{{1, 0}, {0, 1}}, [][]int{{1, 1}, {0, 1}}, true},
		{[][]int{{1, 0}, {0, 1}}, [][]int{{20, 19}, {19, 18}}, true},
		{[][]int{{1, 0}, {0, 2}}, [][]int{{1, 0}, {0, 2}}, true},
		{[][]int{{1, 0}, {0, 2}}, [][]int{{1, 2}, {-3, -4}}, true},
		{[][]int{{5}}, [][]int{{-5}}, true},
		// The same number of points, but other ones.
		{[][]int{{1, 0}, {0, 2}}, [][]int{{2, 0}, {0, 1}}, false},
		{[][]int{{1, 0}, {0, 2}}, [][]int{{1, 1}, {0, 2}}, false},
		// One has all points of the other one, and more.
		{[][]int{{1, 0}, {0, 1}}, [][]int{{1, 0}, {0, 2}}, false},
		{[][]int{{5}}, [][]int{{10}}, false},
		{[][]int{{1}}, [][]int{{20}}, false},
		{[][]int{{1, 0, 0}, {0, 1, 0}, {0, 0, 1}}, [][]int{{20, 19, 18}, {19, 18, 17}, {18, 17, 15}}, true},
		{[][]int{{1, 0, 0}, {0, 1, 0}, {0, 0, 1}}, [][]int{{2, 1, 1}, {1, 2, 1}, {1, 1, 2}}, false},
		// The columns of a matrix may have another lattice than its rows.
		{[][]int{{2, 1}, {0, 2}}, [][]int{{2, 0}, {1, 2}}, false},
	} {
		wantSame(t, c.m, c.k, c.want)
		wantSame(t, c.m, c.m, true)
		wantSame(t, c.k, c.k, true)
	}
}

func TestHas(t *testing.T) {
	for _, c := range []struct {
		m    [][]int
		x    []int
		want bool
	}{
		{[][]int{{1, 0}, {0, 2}}, []int{2, 0}, true},
		{[][]int{{1, 0}, {0, 2}}, []int{0, 1}, false},
		{[][]int{{1, 0}, {0, 2}}, []int{0, 2}, true},
		{[][]int{{1, 0}, {0, 2}}, []int{-7, -4}, true},
		{[][]int{{1, 0}, {0, 2}}, []int{-7, -3}, false},
		{[][]int{{2, 1}, {0, 3}}, []int{0, 0}, true},
		{[][]int{{2, 1}, {0, 3}}, []int{2, 1}, true},
		{[][]int{{2, 1}, {0, 3}}, []int{-2, -1}, true},
		{[][]int{{2, 1}, {0, 3}}, []int{2, 4}, true},
		{[][]int{{2, 1}, {0, 3}}, []int{4, 1}, false},
		{[][]int{{2, 1}, {0, 3}}, []int{1, 2}, false},
		{[][]int{{2, 1}, {0, 3}}, []int{6, 0}, true},
		{[][]int{{2, 1}, {0, 3}}, []int{100, 50}, true},
		{[][]int{{2, 1}, {0, 3}}, []int{-100, 100}, true},
		{[][]int{{2, 1}, {0, 3}}, []int{-100, 99}, false},
		{[][]int{{7}}, []int{98}, true},
		{[][]int{{7}}, []int{-98}, true},
		{[][]int{{-7}}, []int{98}, true},
		{[][]int{{7}}, []int{100}, false},
		{[][]int{{2, 1, 1}, {1, 2, 1}, {1, 1, 2}}, []int{4, 4, 4}, true},
		{[][]int{{2, 1, 1}, {1, 2, 1}, {1, 1, 2}}, []int{1, -1, 0}, true},
		{[][]int{{2, 1, 1}, {1, 2, 1}, {1, 1, 2}}, []int{1, 1, 1}, false},
		{[][]int{{2, 1, 1}, {1, 2, 1}, {1, 1, 2}}, []int{100, 100, 100}, true},
		{[][]int{{2, 1, 1}, {1, 2, 1}, {1, 1, 2}}, []int{100, -100, 99}, false},
	} {
		wantHas(t, c.m, c.x, c.want)
		wantCramer(t, c.m, c.x)
	}
}

// TestOneRow has all matrices of one row, and all points for them.
func TestOneRow(t *testing.T) {
	for n := -20; n <= 20; n++ {
		if n == 0 {
			wantBad(t, [][]int{{n}}, api.ErrClash)
			continue
		}
		size := max(n, -n)
		wantForm(t, [][]int{{n}}, [][]int{{size}})
		for k := 1; k <= 20; k++ {
			wantSame(t, [][]int{{n}}, [][]int{{k}}, k == size)
			wantSame(t, [][]int{{n}}, [][]int{{-k}}, k == size)
		}
		for x := -100; x <= 100; x++ {
			wantHas(t, [][]int{{n}}, []int{x}, x%n == 0)
		}
	}
}

// TestFewElements has all matrices of few different elements.
func TestFewElements(t *testing.T) {
	for _, c := range []struct {
		size     int
		elements []int
	}{
		{2, []int{-20, -15, -9, -4, -2, -1, 0, 1, 3, 6, 10, 14, 19, 20}},
		{3, []int{-1, 0, 1}},
		{3, []int{0, 2, 3}},
		{3, []int{-20, 0, 7}},
		{3, []int{6, 10, 15}},
		{3, []int{-20, 19, 20}},
	} {
		for m := range sample.All(c.size, c.size, c.elements...) {
			wantNormal(t, m)
		}
	}
}

// TestAllSizes has elements that follow no plain rule.
func TestAllSizes(t *testing.T) {
	for n := 1; n <= mostSide; n++ {
		for seed := range 3_000 {
			wantNormal(t, kind().Mixed(n, n, seed))
			wantNormal(t, few(n, seed))
			for most := 1; most <= 4; most++ {
				wantNormal(t, sample.Kind{Side: mostSide, Least: 0, Most: most}.Mixed(n, n, seed))
			}
		}
	}
}

// TestAllElements has all elements at all places.
func TestAllElements(t *testing.T) {
	for n := 1; n <= mostSide; n++ {
		for i := range n {
			for j := range n {
				for k := -20; k <= 20; k++ {
					for seed := range 5 {
						m := kind().Mixed(n, n, seed)
						m[i][j] = k
						wantNormal(t, m)
					}
					m := sample.Unit(n)
					m[i][j] = k
					wantNormal(t, m)
				}
			}
		}
	}
}

// TestDiagonal has zeros everywhere but in one place of each row and column.
func TestDiagonal(t *testing.T) {
	for n := 1; n <= mostSide; n++ {
		for _, order := range sample.OrdersOf(n) {
			for numbers := range sample.All(1, n, -20, -6, -1, 1, 4, 20) {
				m, want := sample.Filled(n, n, 0), sample.Filled(n, n, 0)
				for i, j := range order {
					k := numbers[0][i]
					m[i][j] = k
					want[j][j] = max(k, -k)
				}
				wantForm(t, m, want)
				wantNormal(t, m)
			}
		}
	}
}

// TestForms has all normal forms of small numbers on the diagonal, which are their
// own forms, and those of all matrices that moves of the rows make of them.
func TestForms(t *testing.T) {
	for _, c := range []struct{ size, most int }{{1, 20}, {2, 12}, {3, 4}} {
		for seed, form := range forms(c.size, c.most) {
			wantForm(t, form, form)
			for _, m := range kind().Moves(form, seed) {
				wantForm(t, m, form)
				wantSame(t, m, form, true)
			}
		}
	}
}

// TestDifferentForms has all pairs of normal forms. None has the lattice of
// another one.
func TestDifferentForms(t *testing.T) {
	for _, c := range []struct{ size, most int }{{2, 5}, {3, 2}} {
		all := forms(c.size, c.most)
		for i, m := range all {
			for k, other := range all {
				wantSame(t, kind().Moved(m, k), kind().Moved(other, i), i == k)
			}
		}
	}
}

// TestNumberOfLattices counts the lattices of each determinant, of which there are
// as many as the sum of its divisors.
func TestNumberOfLattices(t *testing.T) {
	const most = 6
	forms := map[int]map[[4]int]bool{}
	for m := range sample.All(2, 2, -6, -5, -4, -3, -2, -1, 0, 1, 2, 3, 4, 5, 6) {
		det := sample.IntDet(m)
		if det = max(det, -det); det == 0 || det > most {
			continue
		}
		form, err := Form(m)
		if err != nil {
			t.Fatalf("Form(%v) has error %v", m, err)
		}
		if forms[det] == nil {
			forms[det] = map[[4]int]bool{}
		}
		forms[det][[4]int(slices.Concat(form...))] = true
	}
	for det, want := range []int{0, 1, 3, 4, 7, 6, 12} {
		if got := len(forms[det]); got != want {
			t.Errorf("there are %d forms of determinant %d, want %d", got, det, want)
		}
	}
}

// TestMoves has matrices of all elements, whose rows are moved, and what is not
// the same lattice: that of a row times a number, or of other rows.
func TestMoves(t *testing.T) {
	for n := 1; n <= mostSide; n++ {
		for seed := range 200 {
			m := kind().Regular(n, seed)
			want, err := Form(m)
			if err != nil {
				t.Fatalf("Form(%v) has error %v", m, err)
			}
			for _, other := range append(kind().Moves(m, seed), sample.Orders(m)...) {
				wantForm(t, other, want)
				wantSame(t, m, other, true)
			}
			other := kind().Regular(n, seed+300)
			wantSame(t, m, other, sameLattice(m, other))
			turned := sample.Turned(m)
			wantSame(t, m, turned, sameLattice(m, turned))
		}
	}
	for n := 1; n <= mostSide; n++ {
		for seed := range 100 {
			m := few(n, seed)
			if sample.IntDet(m) == 0 {
				continue
			}
			for i := range m {
				for by := 2; by <= 20; by++ {
					more := sample.Clone(m)
					more[i] = sample.Multiple(m[i], by)
					wantNormal(t, more)
					wantSame(t, m, more, false)
				}
			}
		}
	}
}

// TestSmallPairs has all pairs of matrices of few different elements.
func TestSmallPairs(t *testing.T) {
	for m := range sample.All(2, 2, -1, 0, 2, 3) {
		for k := range sample.All(2, 2, -2, 0, 1) {
			if sample.IntDet(m) != 0 && sample.IntDet(k) != 0 {
				wantSame(t, m, k, sameLattice(m, k))
			}
		}
	}
}

// TestNearPoints has all points near 0.
func TestNearPoints(t *testing.T) {
	for n := 1; n <= mostSide; n++ {
		from, to := -30, 30
		if n == mostSide {
			from, to = -4, 4
		}
		for seed := range 20 {
			m := kind().Regular(n, seed)
			if seed%2 == 1 {
				// More points are in a lattice of small rows.
				small := forms(n, 3)
				m = kind().Moved(small[seed%len(small)], seed)
			}
			var near []int
			for x := from; x <= to; x++ {
				near = append(near, x)
			}
			for x := range sample.All(1, n, near...) {
				wantCramer(t, m, x[0])
			}
		}
	}
}

// TestSumsOfRows has points that are in the lattice, as they are sums of multiples
// of rows, and points beside them.
func TestSumsOfRows(t *testing.T) {
	for n := 1; n <= mostSide; n++ {
		for seed := range 300 {
			m := kind().Regular(n, seed)
			for by := range sample.All(1, n, -2, -1, 0, 1, 2) {
				x := sample.IntMul(by, m)[0]
				if slices.Max(x) > 100 || slices.Min(x) < -100 {
					continue
				}
				wantHas(t, m, x, true)
				for j := range x {
					if x[j] < 100 {
						x[j]++
						wantCramer(t, m, x)
						x[j]--
					}
				}
			}
		}
	}
}

// TestFarPoints has the points that are farthest from 0, and others that follow no
// plain rule.
func TestFarPoints(t *testing.T) {
	for n := 1; n <= mostSide; n++ {
		for seed := range 200 {
			small := forms(n, 3)
			for _, m := range [][][]int{kind().Regular(n, seed), kind().Moved(small[seed%len(small)], seed)} {
				for x := range sample.All(1, n, -100, -99, 99, 100) {
					wantCramer(t, m, x[0])
				}
				for k := range 20 {
					wantCramer(t, m, point(n, 20*seed+k))
				}
			}
		}
	}
}

// TestLargest has the largest determinants that there are, and rows whose forms
// have large numbers.
func TestLargest(t *testing.T) {
	m := [][]int{{20, 20, -20}, {-20, 20, 20}, {20, -20, 20}}
	for _, ordered := range sample.Orders(m) {
		wantForm(t, ordered, [][]int{{20, 20, 20}, {0, 40, 0}, {0, 0, 40}})
		wantNormal(t, sample.Turned(ordered))
	}
	for m := range sample.All(3, 3, -20, 20) {
		wantNormal(t, m)
	}
	for m := range sample.All(2, 2, -20, -19, -18, -17, 17, 18, 19, 20) {
		wantNormal(t, m)
	}
	for seed := range 3_000 {
		m := sample.Kind{Side: 3, Least: 16, Most: 20}.Mixed(3, 3, seed)
		for i, row := range few(3, seed) {
			for j, n := range row {
				m[i][j] *= n | 1
			}
		}
		wantNormal(t, m)
	}
}

// TestMultiplesOfPrime has determinants that are multiples of Prime, but not 0.
func TestMultiplesOfPrime(t *testing.T) {
	for _, m := range [][][]int{
		{{18, -1, 18}, {-7, -17, 20}, {-19, 19, -15}}, {{-19, 20, -18}, {-3, 19, -17}, {-9, -17, -18}},
		{{19, -20, -7}, {18, 18, 20}, {4, -18, 17}}, {{-19, -18, -19}, {-19, -17, 17}, {17, -14, -17}},
		{{20, 20, -19}, {-19, -7, -20}, {-20, 19, 20}}, {{20, 20, 19}, {19, -20, -7}, {-20, -19, 20}},
	} {
		if det := sample.IntDet(m); det == 0 || det%9_973 != 0 {
			t.Fatalf("the determinant of %v is %d", m, det)
		}
		wantNormal(t, m)
		wantCramer(t, m, []int{100, 100, 100})
	}
}

// TestBad has all lists that are no matrices.
func TestBad(t *testing.T) {
	for m, want := range kind().Bad() {
		wantBad(t, m, want)
	}
}

// TestNotSquare has matrices with more rows than columns and the other way round,
// also with dependent rows.
func TestNotSquare(t *testing.T) {
	for m, want := range kind().NotSquare() {
		wantBad(t, m, want)
	}
	wantBad(t, sample.Filled(1, 4, 0), api.ErrFull)
	wantBad(t, sample.Filled(4, 3, 0), api.ErrFull)
	wantBad(t, sample.Filled(2, 0, 0), api.ErrNone)
	// As many elements as a square matrix has do not help.
	wantBad(t, [][]int{{1, 2, 3}, {4}}, api.ErrShape)
	wantBad(t, [][]int{{1, 2}, {3, 4}, nil}, api.ErrShape)
	wantBad(t, [][]int{{1, 2}, {3, 4}, {21, 5}}, api.ErrRange)
	wantBad(t, [][]int{{1, 2}, {3, 4}, {5, -21}}, api.ErrRange)
}

// TestClash has determinants that are 0. An element that may not be comes before
// that, and so does the number of rows and elements.
func TestClash(t *testing.T) {
	for m := range kind().Singular() {
		wantBad(t, m, api.ErrClash)
		last := len(m) - 1
		m[last][last] = 21
		wantBad(t, m, api.ErrRange)
		if m[last] = m[last][:last]; last > 0 {
			wantBad(t, m, api.ErrShape)
		}
	}
	wantBad(t, [][]int{{2, 4}, {3, 6}}, api.ErrClash)
	wantBad(t, [][]int{{1, 2, 3}, {4, 5, 6}, {7, 8, 9}}, api.ErrClash)
	wantBad(t, [][]int{{1, 2, 3}, {4, 5, 6}, {5, 7, 9}}, api.ErrClash)
	wantBad(t, [][]int{{20, 20, 20}, {-20, -20, -20}, {20, 20, -20}}, api.ErrClash)
}

// TestLimits has elements next to those that may be, at all places.
func TestLimits(t *testing.T) {
	for n := 1; n <= mostSide; n++ {
		for i := range n {
			for j := range n {
				for _, k := range kind().Outside() {
					m := kind().Regular(n, 7)
					m[i][j] = k
					wantBad(t, m, api.ErrRange)
					m = sample.Unit(n)
					m[i][j] = k
					wantBad(t, m, api.ErrRange)
				}
			}
		}
	}
}

// TestSameErrors has errors of both matrices, of which the first one's come first,
// and matrices of different sizes, which come last.
func TestSameErrors(t *testing.T) {
	want := []api.Errno{api.ErrNone, api.ErrFull, api.ErrShape, api.ErrRange, api.ErrShape, api.ErrClash}
	for i, m := range badMatrices() {
		for _, k := range badMatrices() {
			wantSameError(t, m, k, want[i])
		}
		for n := 1; n <= mostSide; n++ {
			wantSameError(t, m, kind().Regular(n, i), want[i])
			wantSameError(t, kind().Regular(n, i), m, want[i])
		}
	}
	for n := 1; n <= mostSide; n++ {
		for k := 1; k <= mostSide; k++ {
			if n == k {
				continue
			}
			wantSameError(t, sample.Unit(n), sample.Unit(k), api.ErrShape)
			for seed := range 20 {
				wantSameError(t, kind().Regular(n, seed), kind().Regular(k, seed), api.ErrShape)
				wantSameError(t, kind().Regular(n, seed), sample.Filled(k, k, 0), api.ErrClash)
				wantSameError(t, sample.Filled(n, n, 0), kind().Regular(k, seed), api.ErrClash)
			}
		}
	}
}

// TestPointShape has too few numbers and too many. That comes before what they
// are.
func TestPointShape(t *testing.T) {
	for n := 1; n <= mostSide; n++ {
		for _, m := range [][][]int{kind().Regular(n, 1), sample.Unit(n)} {
			for _, length := range []int{0, 1, 2, 3, 4, 5, 6, 100} {
				if length == n {
					continue
				}
				for _, k := range []int{0, 1, -100, 100, -101, 101} {
					wantHasError(t, m, slices.Repeat([]int{k}, length), api.ErrShape)
				}
			}
			// Spare capacity does not count.
			wantHasError(t, m, make([]int, n)[:n-1], api.ErrShape)
			wantHasError(t, m, nil, api.ErrShape)
		}
	}
}

// TestPointRange has a number that is too large or too small at each place.
func TestPointRange(t *testing.T) {
	for n := 1; n <= mostSide; n++ {
		for i := range n {
			for _, m := range [][][]int{kind().Regular(n, 1), sample.Unit(n)} {
				for _, k := range points().Outside() {
					x := point(n, 2)
					x[i] = k
					wantHasError(t, m, x, api.ErrRange)
					wantHasError(t, m, sample.With(1, n, 0, i, k)[0], api.ErrRange)
				}
				for k := -100; k <= 100; k++ {
					wantCramer(t, m, sample.With(1, n, 0, i, k)[0])
				}
			}
		}
	}
	wantHasError(t, [][]int{{1}}, []int{math.MinInt}, api.ErrRange)
}

// answers are the results of the functions that return no matrix, and their errors
// as numbers.
type answers struct {
	check, same, other, has api.Errno
	isSame, isOther, isIn   bool
}

// answersOf returns the answers for these arguments.
func answersOf(m, k [][]int, x []int) answers {
	same, sameErr := Same(m, k)
	other, otherErr := Same(k, m)
	has, hasErr := Has(m, x)
	return answers{
		plain.Told(Check(m)), plain.Told(sameErr), plain.Told(otherErr), plain.Told(hasErr), same, other, has,
	}
}

// checkArguments calls all functions again and again, and checks that arguments
// stay as they are, with their spare capacity, and results too.
func checkArguments(t *testing.T, m, k [][]int, x []int) {
	t.Helper()
	// The point is one more row here, so that it is watched as well.
	all, other := sample.Spacious(append(slices.Clone(m), x)), sample.Spacious(k)
	before, otherBefore := sample.Whole(all), sample.Whole(other)
	m, x = all[:len(m):len(m)], all[len(m)]
	form, _ := Form(m)
	wantForm, want := sample.Clone(form), answersOf(m, other, x)
	for range 2 {
		if got := answersOf(m, other, x); got != want {
			t.Fatalf("of %v and %v, the results are first %v and later %v", before, otherBefore, want, got)
		}
		next, _ := Form(m)
		if !sample.Same(next, wantForm) {
			t.Fatalf("of %v, the results are first %v and later %v", before, wantForm, next)
		}
		if !sample.Spoil(next) {
			t.Fatalf("of %v, rows of the result share memory", before)
		}
		if !sample.Same(form, wantForm) {
			t.Fatalf("of %v, two results share memory", before)
		}
	}
	if !sample.Same(sample.Whole(all), before) || !sample.Same(sample.Whole(other), otherBefore) {
		t.Fatalf("arguments %v and %v became %v and %v", before, otherBefore, sample.Whole(all), sample.Whole(other))
	}
	// What the caller does to the arguments later is not seen in the result.
	sample.Spoil(all)
	if !sample.Same(form, wantForm) {
		t.Fatalf("of %v, the result shares memory with the argument", before)
	}
}

func TestArguments(t *testing.T) {
	for rows, columns := range kind().Sizes() {
		for _, x := range [][]int{nil, make([]int, rows), point(rows, 3), point(rows+1, 4), slices.Repeat([]int{101}, rows)} {
			for seed := range 5 {
				m := kind().Mixed(rows, columns, seed)
				checkArguments(t, m, kind().Mixed(columns, rows, seed+1), x)
				checkArguments(t, m, sample.Unit(rows), x)
				checkArguments(t, kind().Regular(rows, seed), kind().Regular(rows, seed), x)
				checkArguments(t, kind().Regular(rows, seed), kind().Regular(columns, seed), x)
			}
			checkArguments(t, sample.Unit(rows), sample.Unit(rows), x)
			checkArguments(t, sample.Filled(rows, columns, 0), sample.Unit(rows), x)
			checkArguments(t, sample.Filled(rows, columns, 21), sample.Unit(rows), x)
		}
	}
	checkArguments(t, nil, nil, nil)
	checkArguments(t, sample.Unit(4), sample.Unit(4), []int{1, 2, 3, 4})
	checkArguments(t, [][]int{{1, 2}, {3}}, [][]int{{1}, {2, 3}}, []int{1, 2})
}

// TestSharedArguments has rows that are the same memory as others, or as x, or
// overlap.
func TestSharedArguments(t *testing.T) {
	line := []int{4, 1, 7, -3, 2, 5, -6, 8}
	before := slices.Clone(line)
	for range 2 {
		for _, m := range [][][]int{
			{line[1:4], line[2:5], line[3:6]}, {line[:3], line[5:8], line[2:5]}, {line[:2], line[1:3]},
			{{1, 2}, line[2:4]}, {line[:1]},
		} {
			wantNormal(t, m)
			wantSame(t, m, m, true)
			wantHas(t, m, m[0], true)
			wantCramer(t, m, line[:len(m)])
			wantCramer(t, m, line[3:3+len(m)])
		}
		wantBad(t, [][]int{line[:2], line[:2]}, api.ErrClash)
		if !slices.Equal(line, before) {
			t.Fatalf("%v became %v", before, line)
		}
	}
}
