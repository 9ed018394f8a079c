package result

import (
	"slices"
	"testing"

	"rankmere/api"
	"rankmere/plain"
	"rankmere/sample"
)

// most is how many the degrees may be together.
const most = 5

// matrix returns the Sylvester matrix, in which each element is the coefficient
// of the power that belongs to its column, for as many shifts as its row says.
func matrix(f, g []int) [][]int {
	m, n := len(f)-1, len(g)-1
	l := sample.Filled(m+n, m+n, 0)
	for i, row := range l {
		for j := range row {
			list, power := f, m+i-j
			if i >= n {
				list, power = g, i-j
			}
			if power >= 0 && power < len(list) {
				row[j] = list[power]
			}
		}
	}
	return l
}

// times returns a polynomial times an element.
func times(f []int, c int) []int {
	return sample.Product(f, []int{c})
}

// negated returns an element, or what makes it 0, for an odd number.
func negated(n, number int) int {
	return sample.Element((1 - number%2*2) * n)
}

// mixed returns a polynomial of this degree that follows no plain rule.
func mixed(degree, seed int) []int {
	f := sample.Numbers(degree+1, seed)
	f[degree] = 1 + f[degree]%9_972
	return f
}

// short returns a list without the zeros at its end.
func short(f []int) []int {
	for len(f) > 0 && f[len(f)-1] == 0 {
		f = f[:len(f)-1]
	}
	return f
}

// shareRoot tells whether two polynomials that are not both constant have a
// divisor that is not. Each step keeps their common divisors but for constants.
func shareRoot(f, g []int) bool {
	if len(f) < len(g) {
		f, g = g, f
	}
	if len(g) < 2 {
		return len(g) == 0
	}
	less := times(f, g[len(g)-1])
	for i, c := range g {
		at := len(f) - len(g) + i
		less[at] = sample.Element(less[at] - c*f[len(f)-1])
	}
	return shareRoot(short(less), g)
}

// degrees returns all pairs of degrees that there may be.
func degrees() [][2]int {
	var l [][2]int
	for m := range most + 1 {
		for n := range most + 1 {
			if m+n >= 1 && m+n <= most {
				l = append(l, [2]int{m, n})
			}
		}
	}
	return l
}

// wantFull fails the test unless Full returns this and no error, and Check has no
// error.
func wantFull(t *testing.T, f, g []int, want [][]int) {
	t.Helper()
	if got, err := Full(f, g); !sample.Same(got, want) || err != nil {
		t.Fatalf("Full(%v, %v) = %v, %v, want %v", f, g, got, err, want)
	}
	if err := Check(f, g); err != nil {
		t.Fatalf("Check(%v, %v) = %v", f, g, err)
	}
}

// wantOf fails the test unless Of returns this and no error.
func wantOf(t *testing.T, f, g []int, want int) {
	t.Helper()
	if got, err := Of(f, g); got != want || err != nil {
		t.Fatalf("Of(%v, %v) = %d, %v, want %d", f, g, got, err, want)
	}
}

// wantRight fails the test unless the matrix is right, and Of returns what is the
// determinant of this matrix by the definition.
func wantRight(t *testing.T, f, g []int) {
	t.Helper()
	m := matrix(f, g)
	wantFull(t, f, g, m)
	wantOf(t, f, g, sample.Det(m))
}

// wantBad fails the test unless all functions return nothing but this error.
func wantBad(t *testing.T, f, g []int, want api.Errno) {
	t.Helper()
	if err := Check(f, g); plain.Told(err) != want {
		t.Fatalf("Check(%v, %v) = %v, want %v", f, g, err, want)
	}
	if got, err := Full(f, g); len(got) != 0 || plain.Told(err) != want {
		t.Fatalf("Full(%v, %v) = %v, %v, want nothing and %v", f, g, got, err, want)
	}
	if got, err := Of(f, g); got != 0 || plain.Told(err) != want {
		t.Fatalf("Of(%v, %v) = %d, %v, want 0 and %v", f, g, got, err, want)
	}
}

// wantBadBoth fails the test unless two lists have this error in both orders.
func wantBadBoth(t *testing.T, f, g []int, want api.Errno) {
	t.Helper()
	wantBad(t, f, g, want)
	wantBad(t, g, f, want)
}

func TestFull(t *testing.T) {
	for _, c := range []struct {
		f, g []int
		want [][]int
	}{
		{[]int{1, 1}, []int{2, 1}, [][]int{{1, 1}, {1, 2}}},
		{[]int{2, 1}, []int{1, 1}, [][]int{{1, 2}, {1, 1}}},
		{[]int{1, 2}, []int{3, 4}, [][]int{{2, 1}, {4, 3}}},
		// A constant has a row for each degree of the other one, which has none.
		{[]int{3}, []int{5, 7}, [][]int{{3}}},
		{[]int{5, 7}, []int{3}, [][]int{{3}}},
		{[]int{3}, []int{0, 0, 1}, [][]int{{3, 0}, {0, 3}}},
		{[]int{7}, []int{1, 2, 3, 4}, [][]int{{7, 0, 0}, {0, 7, 0}, {0, 0, 7}}},
		{[]int{1, 2, 3, 4, 5, 6}, []int{9_972}, [][]int{
			{9_972, 0, 0, 0, 0}, {0, 9_972, 0, 0, 0}, {0, 0, 9_972, 0, 0}, {0, 0, 0, 9_972, 0}, {0, 0, 0, 0, 9_972},
		}},
		{[]int{1, 2, 3}, []int{4, 5}, [][]int{{3, 2, 1}, {5, 4, 0}, {0, 5, 4}}},
		{[]int{4, 5}, []int{1, 2, 3}, [][]int{{5, 4, 0}, {0, 5, 4}, {3, 2, 1}}},
		{[]int{9_972, 0, 1}, []int{0, 2}, [][]int{{1, 0, 9_972}, {2, 0, 0}, {0, 2, 0}}},
		{[]int{1, 2, 3}, []int{4, 5, 6}, [][]int{{3, 2, 1, 0}, {0, 3, 2, 1}, {6, 5, 4, 0}, {0, 6, 5, 4}}},
		{[]int{100, 100}, []int{100, 0, 0, 100}, [][]int{{100, 100, 0, 0}, {0, 100, 100, 0}, {0, 0, 100, 100}, {100, 0, 0, 100}}},
		{[]int{1, 2, 3, 4}, []int{5, 6, 7}, [][]int{
			{4, 3, 2, 1, 0}, {0, 4, 3, 2, 1}, {7, 6, 5, 0, 0}, {0, 7, 6, 5, 0}, {0, 0, 7, 6, 5},
		}},
		{[]int{6, 7}, []int{1, 2, 3, 4, 5}, [][]int{
			{7, 6, 0, 0, 0}, {0, 7, 6, 0, 0}, {0, 0, 7, 6, 0}, {0, 0, 0, 7, 6}, {5, 4, 3, 2, 1},
		}},
	} {
		wantFull(t, c.f, c.g, c.want)
		wantRight(t, c.f, c.g)
	}
}

func TestOf(t *testing.T) {
	for _, c := range []struct {
		f, g []int
		want int
	}{
		{[]int{1, 1}, []int{2, 1}, 1},
		{[]int{2, 1}, []int{1, 1}, 9_972},
		{[]int{1, 2}, []int{3, 4}, 2},
		{[]int{3, 4}, []int{1, 2}, 9_971},
		{[]int{3}, []int{1, 1}, 3},
		{[]int{1, 1}, []int{3}, 3},
		{[]int{1, 2, 3, 4, 5, 6}, []int{7}, 6_834},
		{[]int{7}, []int{1, 2, 3, 4, 5, 6}, 6_834},
		{[]int{9_972}, []int{0, 0, 0, 1}, 9_972},
		{[]int{1, 2, 3}, []int{4, 5}, 33},
		{[]int{4, 5}, []int{1, 2, 3}, 33},
		{[]int{9_972, 0, 1}, []int{0, 2}, 9_969},
		{[]int{1, 2, 3}, []int{4, 5, 6}, 27},
		{[]int{2, 0, 0, 0, 1}, []int{1, 1}, 3},
		{[]int{1, 2, 3, 4}, []int{5, 6, 7}, 832},
		{[]int{1, 2, 3, 4, 5}, []int{6, 7}, 4_009},
		{[]int{9_972, 9_972, 9_972, 9_972}, []int{9_972, 1, 9_972}, 9_970},
		// These have a common root.
		{[]int{1, 1}, []int{1, 1}, 0},
		{[]int{1, 1}, []int{5, 5}, 0},
		{[]int{0, 1}, []int{0, 3, 1}, 0},
		{[]int{0, 9_972}, []int{0, 9_972}, 0},
		{[]int{1, 0, 0, 1}, []int{9_972, 0, 1}, 0},
		{[]int{100, 100}, []int{100, 0, 0, 100}, 0},
		// The common roots are no elements, because 5 is no square modulo Prime.
		{[]int{9_972, 9_972, 1}, []int{9_972, 9_972, 1}, 0},
		{[]int{9_972, 9_972, 1}, []int{9_972, 9_971, 0, 1}, 0},
	} {
		wantOf(t, c.f, c.g, c.want)
		wantRight(t, c.f, c.g)
	}
}

// TestFewElements has all polynomials of few different elements, and tells by
// their divisors whether the resultant is 0.
func TestFewElements(t *testing.T) {
	for _, d := range degrees() {
		for l := range sample.All(1, d[0]+d[1]+2, 0, 1, 9_972) {
			f, g := l[0][:d[0]+1], l[0][d[0]+1:]
			if f[d[0]] == 0 || g[d[1]] == 0 {
				continue
			}
			wantRight(t, f, g)
			if got, _ := Of(f, g); (got == 0) != shareRoot(f, g) {
				t.Fatalf("Of(%v, %v) = %d, but %v tells whether they share a root", f, g, got, shareRoot(f, g))
			}
		}
	}
}

// TestAllSizes has polynomials that follow no plain rule.
func TestAllSizes(t *testing.T) {
	for _, d := range degrees() {
		for seed := range 100 {
			wantRight(t, mixed(d[0], seed), mixed(d[1], seed+1_000))
		}
	}
}

// TestAllElements has all elements at all places.
func TestAllElements(t *testing.T) {
	for n := range 9_973 {
		wantFull(t, []int{n, 1}, []int{9_972 - n, 5}, [][]int{{1, n}, {5, 9_972 - n}})
		wantOf(t, []int{n, 1}, []int{0, 1}, sample.Element(-n))
		wantOf(t, []int{0, 1}, []int{n, 1}, n)
		if n > 0 {
			wantOf(t, []int{n}, []int{n, 1}, n)
			wantOf(t, []int{n, 1}, []int{n}, n)
			wantOf(t, []int{0, n}, []int{1, n}, n)
		}
	}
	for n := 1; n < 9_973; n += 97 {
		for _, d := range degrees() {
			for i := range d[0] + 1 {
				f, g := mixed(d[0], n), mixed(d[1], n+1)
				f[i] = n
				wantRight(t, f, g)
				wantRight(t, g, f)
			}
		}
	}
}

// TestRoots has polynomials with known roots. The resultant is the product of the
// differences of their roots, and of powers of their last coefficients.
func TestRoots(t *testing.T) {
	for _, d := range degrees() {
		for seed := range 50 {
			x, y := sample.Numbers(d[0], seed), sample.Numbers(d[1], seed+100)
			a, b := 1+seed*199%9_972, 9_972-seed*7
			want := sample.Power(a, d[1]) * sample.Power(b, d[0]) % 9_973
			for _, p := range x {
				for _, q := range y {
					want = sample.Element(want * (p - q))
				}
			}
			wantOf(t, times(sample.WithRoots(x), a), times(sample.WithRoots(y), b), want)
		}
	}
}

// TestCommonDivisor has polynomials that are multiples of one.
func TestCommonDivisor(t *testing.T) {
	for _, d := range degrees() {
		for size := 1; size <= min(d[0], d[1]); size++ {
			for seed := range 100 {
				common := mixed(size, seed)
				f := sample.Product(common, mixed(d[0]-size, seed+1))
				g := sample.Product(common, mixed(d[1]-size, seed+2))
				wantOf(t, f, g, 0)
				wantRight(t, f, g)
			}
		}
	}
}

// TestExchange has polynomials in both orders, which negates the resultant if
// both degrees are odd.
func TestExchange(t *testing.T) {
	for _, d := range degrees() {
		for seed := range 50 {
			f, g := mixed(d[0], seed), mixed(d[1], seed+50)
			wantOf(t, g, f, negated(sample.Det(matrix(f, g)), d[0]*d[1]))
		}
	}
}

// TestProducts multiplies polynomials, which multiplies the resultants.
func TestProducts(t *testing.T) {
	for _, d := range degrees() {
		for size := 1; size < d[1]; size++ {
			for seed := range 30 {
				f, g, h := mixed(d[0], seed), mixed(size, seed+30), mixed(d[1]-size, seed+60)
				first, firstErr := Of(f, g)
				second, secondErr := Of(f, h)
				if firstErr != nil || secondErr != nil {
					t.Fatal(firstErr, secondErr)
				}
				wantOf(t, f, sample.Product(g, h), first*second%9_973)
			}
		}
	}
	for _, d := range degrees() {
		for c := 1; c < 9_973; c += 499 {
			f, g := mixed(d[0], c), mixed(d[1], c+1)
			n := sample.Det(matrix(f, g))
			wantOf(t, times(f, c), g, n*sample.Power(c, d[1])%9_973)
			wantOf(t, f, times(g, c), n*sample.Power(c, d[0])%9_973)
		}
	}
}

// TestLinear has a polynomial with one root, at which the resultant has the value
// of the other one.
func TestLinear(t *testing.T) {
	for degree := 1; degree < most; degree++ {
		f := mixed(degree, degree)
		for x := 0; x < 9_973; x += 13 {
			g := []int{sample.Element(-x), 1}
			wantOf(t, g, f, sample.Value(f, x))
			wantOf(t, f, g, negated(sample.Value(f, x), degree))
		}
	}
}

// empty returns empty lists.
func empty() [][]int {
	return [][]int{nil, {}, make([]int, 0, 6), sample.Numbers(6, 1)[:0], sample.Numbers(6, 1)[6:]}
}

// TestEmpty has empty lists. That comes before all that is wrong with the other.
func TestEmpty(t *testing.T) {
	for _, none := range empty() {
		for _, f := range slices.Concat(empty(), [][]int{
			{1}, {1, 1}, {0}, {5, 0}, {-1}, {9_973}, {9_973, 0}, sample.Numbers(most+1, 1), sample.Numbers(most+2, 1), sample.Numbers(1_000, 1),
			make([]int, 7), slices.Repeat([]int{-1}, 7),
		}) {
			wantBadBoth(t, none, f, api.ErrNone)
		}
	}
}

// TestRange has a number that is no element at each place. That comes before a
// zero at the end of any list, and before the degrees.
func TestRange(t *testing.T) {
	others := [][]int{{1}, {3, 1}, {0}, {1, 0}, {9_973}, {0, -1}, mixed(most, 1), mixed(most+1, 1), make([]int, 100)}
	for _, size := range []int{1, 2, 3, most, most + 1, most + 2, 50} {
		for _, n := range sample.Outside() {
			for i := range size {
				for _, good := range [][]int{mixed(size-1, i), make([]int, size), slices.Repeat([]int{1}, size)} {
					f := slices.Clone(good)
					f[i] = n
					wantBadBoth(t, f, others[i%len(others)], api.ErrRange)
				}
			}
			for _, g := range others {
				wantBadBoth(t, slices.Repeat([]int{n}, size), g, api.ErrRange)
			}
		}
	}
}

// TestShape has a zero at the end of a list. That comes before the degrees.
func TestShape(t *testing.T) {
	for m := range most + 3 {
		for n := range most + 3 {
			f, g := mixed(m, 1), mixed(n, 2)
			f[m] = 0
			wantBadBoth(t, f, g, api.ErrShape)
			g[n] = 0
			wantBadBoth(t, f, g, api.ErrShape)
			wantBadBoth(t, make([]int, m+1), g, api.ErrShape)
			wantBadBoth(t, make([]int, m+1), mixed(n, 3), api.ErrShape)
			wantBadBoth(t, append(mixed(m, 4), 0), mixed(n, 5), api.ErrShape)
			wantBadBoth(t, append(mixed(m, 4), 0, 0, 0), mixed(n, 5), api.ErrShape)
		}
	}
	wantBadBoth(t, make([]int, 1_000), []int{1}, api.ErrShape)
}

// TestDegrees has the degrees that there may be, and others, which are the last
// thing that is wrong.
func TestDegrees(t *testing.T) {
	for m := range 3 * most {
		for n := range 3 * most {
			f, g := mixed(m, m+n), mixed(n, n)
			last := slices.Concat(make([]int, n), []int{9_972})
			if m+n >= 1 && m+n <= most {
				wantRight(t, f, g)
				wantRight(t, f, last)
				continue
			}
			wantBad(t, f, g, api.ErrFull)
			wantBad(t, f, last, api.ErrFull)
		}
	}
	for c := 1; c < 9_973; c++ {
		wantBad(t, []int{c}, []int{9_973 - c}, api.ErrFull)
	}
	for _, degree := range []int{16, 99, 255, 256, 257, 1_000} {
		for _, f := range [][]int{{1}, {3, 1}, mixed(most, 1)} {
			wantBadBoth(t, f, mixed(degree, 1), api.ErrFull)
		}
	}
}

// checkArguments calls all functions again and again, and checks that the lists
// stay as they are, with their spare capacity, and that a matrix does so whatever
// is done to others and to the lists.
func checkArguments(t *testing.T, f, g []int) {
	t.Helper()
	l := sample.Spacious([][]int{f, g})
	before := sample.Whole(l)
	first, fullErr := Full(l[0], l[1])
	want := sample.Clone(first)
	number, ofErr := Of(l[0], l[1])
	for range 2 {
		next, err := Full(l[0], l[1])
		if !sample.Same(next, want) || plain.Told(err) != plain.Told(fullErr) {
			t.Fatalf("of %v, the matrix is first %v, %v and later %v, %v", before, want, fullErr, next, err)
		}
		if got, err := Of(l[0], l[1]); got != number || plain.Told(err) != plain.Told(ofErr) {
			t.Fatalf("of %v, Of is first %d, %v and later %d, %v", before, number, ofErr, got, err)
		}
		if err := Check(l[0], l[1]); plain.Told(err) != plain.Told(fullErr) {
			t.Fatalf("of %v, Check is %v", before, err)
		}
		if !sample.Spoil(next) {
			t.Fatalf("of %v, two rows share memory", before)
		}
		if !sample.Same(first, want) {
			t.Fatalf("of %v, two matrices share memory", before)
		}
	}
	if !sample.Same(sample.Whole(l), before) {
		t.Fatalf("the lists %v became %v", before, sample.Whole(l))
	}
	sample.Spoil(l)
	if !sample.Same(first, want) {
		t.Fatalf("of %v, the matrix shares memory with the lists", before)
	}
}

func TestArguments(t *testing.T) {
	lists := [][]int{{0}, {1, 0}, {-1}, {9_973, 1}, {}}
	for degree := range most + 2 {
		lists = append(lists, mixed(degree, 1), mixed(degree, 2), slices.Repeat([]int{9_972}, degree+1))
	}
	for _, f := range lists {
		for _, g := range lists {
			checkArguments(t, f, g)
		}
	}
}

// TestSameList has one list in the place of both, which share a root then.
func TestSameList(t *testing.T) {
	for degree := 1; degree <= most/2; degree++ {
		f := mixed(degree, degree)
		before := slices.Clone(f)
		wantRight(t, f, f)
		wantOf(t, f, f, 0)
		if !slices.Equal(f, before) {
			t.Fatalf("the list %v became %v", before, f)
		}
	}
}
