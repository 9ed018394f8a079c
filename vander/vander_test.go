package vander

import (
	"math"
	"slices"
	"testing"

	"rankmere/api"
	"rankmere/plain"
	"rankmere/sample"
)

// most is how many numbers there may be.
const most = 5

// matrix returns the matrix of these numbers, each power on its own.
func matrix(xs []int) [][]int {
	m := sample.Filled(len(xs), len(xs), 0)
	for i, row := range m {
		for j := range row {
			row[j] = sample.Power(xs[i], j)
		}
	}
	return m
}

// line returns the matrix that has these numbers as its only row.
func line(xs []int) [][]int {
	return [][]int{slices.Clone(xs)}
}

// each returns the list of what f makes of the numbers.
func each(xs []int, f func(x int) int) []int {
	var l []int
	for _, x := range xs {
		l = append(l, sample.Element(f(x)))
	}
	return l
}

// wantFull fails the test unless Full returns this and no error, and Check has no
// error.
func wantFull(t *testing.T, xs []int, want [][]int) {
	t.Helper()
	if got, err := Full(xs); !sample.Same(got, want) || err != nil {
		t.Fatalf("Full(%v) = %v, %v, want %v", xs, got, err, want)
	}
	if err := Check(xs); err != nil {
		t.Fatalf("Check(%v) = %v", xs, err)
	}
}

// wantDet fails the test unless Det returns this and no error.
func wantDet(t *testing.T, xs []int, want int) {
	t.Helper()
	if got, err := Det(xs); got != want || err != nil {
		t.Fatalf("Det(%v) = %d, %v, want %d", xs, got, err, want)
	}
}

// wantRight fails the test unless the matrix has the right powers, and Det returns
// what is the determinant of this matrix by the definition.
func wantRight(t *testing.T, xs []int) {
	t.Helper()
	m := matrix(xs)
	wantFull(t, xs, m)
	wantDet(t, xs, sample.Det(m))
}

// wantBad fails the test unless all functions return nothing but this error.
func wantBad(t *testing.T, xs []int, want api.Errno) {
	t.Helper()
	if err := Check(xs); plain.Told(err) != want {
		t.Fatalf("Check(%v) = %v, want %v", xs, err, want)
	}
	if got, err := Full(xs); len(got) != 0 || plain.Told(err) != want {
		t.Fatalf("Full(%v) = %v, %v, want nothing and %v", xs, got, err, want)
	}
	if got, err := Det(xs); got != 0 || plain.Told(err) != want {
		t.Fatalf("Det(%v) = %d, %v, want 0 and %v", xs, got, err, want)
	}
}

func TestFull(t *testing.T) {
	for _, c := range []struct {
		xs   []int
		want [][]int
	}{
		{[]int{0}, [][]int{{1}}},
		{[]int{2}, [][]int{{1}}},
		{[]int{9_972}, [][]int{{1}}},
		{[]int{2, 3}, [][]int{{1, 2}, {1, 3}}},
		{[]int{3, 2}, [][]int{{1, 3}, {1, 2}}},
		{[]int{1, 1}, [][]int{{1, 1}, {1, 1}}},
		{[]int{0, 9_972}, [][]int{{1, 0}, {1, 9_972}}},
		{[]int{0, 0, 0}, [][]int{{1, 0, 0}, {1, 0, 0}, {1, 0, 0}}},
		{[]int{2, 3, 5}, [][]int{{1, 2, 4}, {1, 3, 9}, {1, 5, 25}}},
		{[]int{99, 100, 101}, [][]int{{1, 99, 9_801}, {1, 100, 27}, {1, 101, 228}}},
		{[]int{9_972, 9_971, 7, 0}, [][]int{{1, 9_972, 1, 9_972}, {1, 9_971, 4, 9_965}, {1, 7, 49, 343}, {1, 0, 0, 0}}},
		{[]int{0, 1, 2, 3, 4}, [][]int{
			{1, 0, 0, 0, 0}, {1, 1, 1, 1, 1}, {1, 2, 4, 8, 16}, {1, 3, 9, 27, 81}, {1, 4, 16, 64, 256},
		}},
		{[]int{10, 9_972, 100, 1, 9_963}, [][]int{
			{1, 10, 100, 1_000, 27}, {1, 9_972, 1, 9_972, 1}, {1, 100, 27, 2_700, 729}, {1, 1, 1, 1, 1}, {1, 9_963, 100, 8_973, 27},
		}},
	} {
		wantFull(t, c.xs, c.want)
		wantRight(t, c.xs)
	}
}

func TestDet(t *testing.T) {
	for _, c := range []struct {
		xs   []int
		want int
	}{
		{[]int{0}, 1},
		{[]int{2}, 1},
		{[]int{9_972}, 1},
		// The difference is the later number minus the earlier one.
		{[]int{2, 5}, 3},
		{[]int{5, 2}, 9_970},
		{[]int{0, 1}, 1},
		{[]int{1, 0}, 9_972},
		{[]int{1, 1}, 0},
		{[]int{0, 0}, 0},
		{[]int{9_972, 9_972}, 0},
		{[]int{0, 9_972}, 9_972},
		{[]int{9_972, 0}, 1},
		{[]int{1, 9_972}, 9_971},
		{[]int{0, 1, 2}, 2},
		{[]int{2, 1, 0}, 9_971},
		{[]int{1, 2, 0}, 2},
		{[]int{0, 1, 0}, 0},
		{[]int{2, 3, 5}, 6},
		{[]int{9_970, 9_971, 9_972}, 2},
		{[]int{0, 100, 200}, 5_400},
		{[]int{0, 1, 2, 3}, 12},
		{[]int{1, 2, 4, 8}, 1_008},
		{[]int{3, 2, 1, 0}, 12},
		{[]int{0, 1, 2, 3, 4}, 288},
		{[]int{4, 3, 2, 1, 0}, 288},
		{[]int{1, 0, 2, 3, 4}, 9_685},
		{[]int{9_968, 9_969, 9_970, 9_971, 9_972}, 288},
		{[]int{9_972, 1, 2, 3, 4}, 1_440},
		{[]int{0, 1, 2, 3, 0}, 0},
		{[]int{7, 7, 7, 7, 7}, 0},
	} {
		wantDet(t, c.xs, c.want)
		wantRight(t, c.xs)
	}
}

// TestAllElements has all elements in lists of all lengths, at all places.
func TestAllElements(t *testing.T) {
	for n := range 9_973 {
		wantFull(t, []int{n}, [][]int{{1}})
		wantDet(t, []int{n}, 1)
		wantDet(t, []int{0, n}, n)
		wantDet(t, []int{n, 0}, sample.Element(-n))
		wantDet(t, []int{n, 9_972}, 9_972-n)
		wantDet(t, []int{9_972, n}, (n+1)%9_973)
		wantDet(t, []int{n, n}, 0)
		wantRight(t, []int{n, 9_972 - n, 4_986})
	}
	for n := 0; n < 9_973; n += 29 {
		for size := 1; size <= most; size++ {
			for i := range size {
				xs := sample.Numbers(size, size)
				xs[i] = n
				wantRight(t, xs)
			}
		}
	}
}

// TestFewElements has all lists of few different elements.
func TestFewElements(t *testing.T) {
	elements := []int{0, 1, 2, 100, 9_972}
	for size := 1; size <= most; size++ {
		for m := range sample.All(1, size, elements...) {
			wantRight(t, m[0])
		}
	}
}

// TestAllSizes has numbers that follow no plain rule.
func TestAllSizes(t *testing.T) {
	for size := 1; size <= most; size++ {
		for seed := range 300 {
			wantRight(t, sample.Numbers(size, seed))
		}
	}
}

// TestRising has numbers one after the other, so that the determinant is a product
// of factorials, and the other way round.
func TestRising(t *testing.T) {
	want := []int{1, 1, 2, 12, 288}
	for size := 1; size <= most; size++ {
		for from := 0; from+size <= 9_973; from++ {
			xs := each(sample.UpTo(size), func(x int) int { return from + x })
			wantDet(t, xs, want[size-1])
			slices.Reverse(xs)
			sign := []int{1, 1, -1, -1, 1, 1}[size]
			wantDet(t, xs, sample.Element(sign*want[size-1]))
		}
	}
}

// TestTwice has a number at two places, which alone makes the determinant 0.
func TestTwice(t *testing.T) {
	for size := 2; size <= most; size++ {
		for k := range size {
			for i := range k {
				for seed := range 20 {
					xs := sample.Numbers(size, seed)
					if got, err := Det(xs); got == 0 || err != nil {
						t.Fatalf("Det(%v) = %d, %v, want another element", xs, got, err)
					}
					xs[i] = xs[k]
					wantDet(t, xs, 0)
					wantRight(t, xs)
				}
			}
		}
	}
}

// TestOrders has numbers in all orders, which move the rows, and may negate the
// determinant.
func TestOrders(t *testing.T) {
	for size := 1; size <= most; size++ {
		for seed := range 5 {
			xs := sample.Numbers(size, seed)
			m, det := matrix(xs), sample.Det(matrix(xs))
			for _, order := range sample.OrdersOf(size) {
				moved := each(order, func(k int) int { return xs[k] })
				wantFull(t, moved, sample.Part(m, order, sample.UpTo(size)))
				wantDet(t, moved, sample.Element(sample.Sign(order)*det))
			}
		}
	}
}

// TestShifts adds the same to all numbers, which leaves the determinant as it is,
// or multiplies all, which multiplies each difference.
func TestShifts(t *testing.T) {
	for size := 1; size <= most; size++ {
		for seed := range 5 {
			xs := sample.Numbers(size, seed)
			det := sample.Det(matrix(xs))
			for n := 0; n < 9_973; n += 97 {
				wantDet(t, each(xs, func(x int) int { return x + n }), det)
				wantDet(t, each(xs, func(x int) int { return x * n }), det*sample.Power(n, size*(size-1)/2)%9_973)
			}
			wantDet(t, each(xs, func(x int) int { return -x }), sample.Element([]int{1, 1, -1, -1, 1, 1}[size]*det))
		}
	}
}

// TestValues multiplies the matrix with the coefficients of a polynomial, which
// yields its values at the numbers.
func TestValues(t *testing.T) {
	for size := 1; size <= most; size++ {
		for seed := range 50 {
			xs, f := sample.Numbers(size, seed), sample.Numbers(size, seed+100)
			full, err := Full(xs)
			if err != nil {
				t.Fatal(err)
			}
			values := each(xs, func(x int) int {
				sum := 0
				for i := range f {
					sum = (sum*x + f[size-1-i]) % 9_973
				}
				return sum
			})
			if got := sample.Mul(full, sample.Turned(line(f))); !sample.Same(got, sample.Turned(line(values))) {
				t.Fatalf("Full(%v) of the coefficients %v yields %v, want %v", xs, f, got, values)
			}
		}
	}
}

func TestEmpty(t *testing.T) {
	for _, xs := range [][]int{nil, {}, make([]int, 0, 5), sample.Numbers(5, 1)[:0], sample.Numbers(6, 1)[6:]} {
		wantBad(t, xs, api.ErrNone)
	}
}

// TestTooMany has too many numbers. That comes before what they are.
func TestTooMany(t *testing.T) {
	for _, size := range []int{6, 7, 8, 10, 11, 16, 100, 1_000} {
		for _, n := range []int{0, 1, 9_972, 9_973, -1, math.MinInt, math.MaxInt} {
			wantBad(t, slices.Repeat([]int{n}, size), api.ErrFull)
		}
		wantBad(t, sample.Numbers(size, 1), api.ErrFull)
		for i := range 6 {
			for _, n := range sample.Outside() {
				xs := sample.Numbers(size, 2)
				xs[i] = n
				wantBad(t, xs, api.ErrFull)
				wantBad(t, sample.With(1, size, 0, i, n)[0], api.ErrFull)
			}
		}
	}
	// Spare capacity does not count.
	long := sample.Numbers(6, 3)
	wantRight(t, long[:5])
	wantRight(t, long[1:])
}

// TestRange has a number that is no element at each place.
func TestRange(t *testing.T) {
	for size := 1; size <= most; size++ {
		for _, n := range sample.Outside() {
			for i := range size {
				for _, good := range [][]int{sample.Numbers(size, i), make([]int, size), slices.Repeat([]int{1}, size)} {
					xs := slices.Clone(good)
					xs[i] = n
					wantBad(t, xs, api.ErrRange)
				}
			}
			wantBad(t, slices.Repeat([]int{n}, size), api.ErrRange)
		}
	}
}

// TestLimits has as many numbers as there may be, and elements next to their
// limits.
func TestLimits(t *testing.T) {
	for size := 1; size <= most; size++ {
		for m := range sample.All(1, size, 0, 1, 9_971, 9_972) {
			wantRight(t, m[0])
		}
	}
}

// checkArguments calls all functions again and again, and checks that the numbers
// stay as they are, with their spare capacity, and that a matrix does so whatever
// is done to others and to the numbers.
func checkArguments(t *testing.T, xs []int) {
	t.Helper()
	l := sample.Spacious(line(xs))
	before := sample.Whole(l)
	first, fullErr := Full(l[0])
	want := sample.Clone(first)
	det, detErr := Det(l[0])
	for range 2 {
		next, err := Full(l[0])
		if !sample.Same(next, want) || plain.Told(err) != plain.Told(fullErr) {
			t.Fatalf("of %v, the matrix is first %v, %v and later %v, %v", before, want, fullErr, next, err)
		}
		if got, err := Det(l[0]); got != det || plain.Told(err) != plain.Told(detErr) {
			t.Fatalf("of %v, Det is first %d, %v and later %d, %v", before, det, detErr, got, err)
		}
		if err := Check(l[0]); plain.Told(err) != plain.Told(fullErr) {
			t.Fatalf("of %v, Check is %v", before, err)
		}
		if !sample.Spoil(next) {
			t.Fatalf("of %v, two rows share memory", before)
		}
		if !sample.Same(first, want) {
			t.Fatalf("of %v, two matrices share memory", before)
		}
	}
	if !sample.Same(sample.Whole(l), before) {
		t.Fatalf("the numbers %v became %v", before, sample.Whole(l))
	}
	sample.Spoil(l)
	if !sample.Same(first, want) {
		t.Fatalf("of %v, the matrix shares memory with the numbers", before)
	}
}

func TestArguments(t *testing.T) {
	for size := range most + 2 {
		for _, xs := range [][]int{
			sample.Numbers(size, 1), sample.UpTo(size), make([]int, size), slices.Repeat([]int{1}, size),
			slices.Repeat([]int{9_972}, size), slices.Repeat([]int{-1}, size), slices.Repeat([]int{9_973}, size),
		} {
			checkArguments(t, xs)
		}
	}
}

// TestPowers checks that the powers end where the one who takes them does.
func TestPowers(t *testing.T) {
	for _, c := range []struct {
		x, many int
		want    []int
	}{
		{0, 0, nil},
		{7, 0, nil},
		{0, 1, []int{1}},
		{0, 3, []int{1, 0, 0}},
		{1, 3, []int{1, 1, 1}},
		{100, 4, []int{1, 100, 27, 2_700}},
		{9_972, 4, []int{1, 9_972, 1, 9_972}},
	} {
		if got := slices.Collect(powers(c.x, c.many)); !slices.Equal(got, c.want) {
			t.Errorf("the powers of %d are %v, want %v", c.x, got, c.want)
		}
		for many := range len(c.want) + 1 {
			got := sample.First(powers(c.x, c.many), many)
			if !slices.Equal(got, c.want[:many]) {
				t.Errorf("the first powers of %d are %v, want %v", c.x, got, c.want[:many])
			}
		}
	}
}

// TestPairs checks that the pairs end where the one who takes them does.
func TestPairs(t *testing.T) {
	for _, c := range []struct {
		xs   []int
		want [][]int
	}{
		{nil, nil},
		{[]int{7}, nil},
		{[]int{7, 5}, [][]int{{7, 5}}},
		{[]int{5, 5}, [][]int{{5, 5}}},
		{[]int{1, 2, 3}, [][]int{{1, 2}, {1, 3}, {2, 3}}},
		{[]int{4, 3, 2, 1}, [][]int{{4, 3}, {4, 2}, {4, 1}, {3, 2}, {3, 1}, {2, 1}}},
	} {
		var all [][]int
		for earlier, later := range pairs(c.xs) {
			all = append(all, []int{earlier, later})
		}
		if !sample.Same(all, c.want) {
			t.Errorf("the pairs of %v are %v, want %v", c.xs, all, c.want)
		}
		for many := 1; many <= len(c.want); many++ {
			var got [][]int
			for earlier, later := range pairs(c.xs) {
				if got = append(got, []int{earlier, later}); len(got) == many {
					break
				}
			}
			if !sample.Same(got, c.want[:many]) {
				t.Errorf("the first pairs of %v are %v, want %v", c.xs, got, c.want[:many])
			}
		}
	}
}
