package sturm

import (
	"math"
	"slices"
	"testing"

	"rankmere/api"
	"rankmere/plain"
	"rankmere/sample"
)

// What the chapter says of the number of coefficients and of the ends of
// intervals.
const (
	mostLength = 4
	mostEnd    = 100
)

// farOut is so far from 0 that no root is there, or beyond it.
const farOut = 21

// kind returns what the chapter says of coefficients.
func kind() sample.Kind {
	return sample.Kind{Side: mostLength, Least: -20, Most: 20}
}

// mixed returns a polynomial that follows no plain rule.
func mixed(length, seed int) []int {
	f := kind().Mixed(1, length, seed)[0]
	if f[length-1] == 0 {
		f[length-1] = 1 + seed%20
	}
	return f
}

// all returns all polynomials of this length that have only these coefficients.
func all(length int, coefficients ...int) [][]int {
	var l [][]int
	for m := range sample.All(1, length, coefficients...) {
		if m[0][length-1] != 0 {
			l = append(l, m[0])
		}
	}
	return l
}

// each returns the list of what change makes of the coefficients.
func each(f []int, change func(i, c int) int) []int {
	var l []int
	for i, c := range f {
		l = append(l, change(i, c))
	}
	return l
}

// allowed tells whether the coefficients are such as the chapter allows.
func allowed(f []int) bool {
	return slices.Min(f) >= -20 && slices.Max(f) <= 20
}

// discriminant returns a number that is 0 if there is a multiple root, or else
// negative if two roots are not real.
func discriminant(f []int) int {
	switch len(f) {
	case 3:
		return f[1]*f[1] - 4*f[2]*f[0]
	case 4:
		d, c, b, a := f[0], f[1], f[2], f[3]
		return 18*a*b*c*d - 4*b*b*b*d + b*b*c*c - 4*a*c*c*c - 27*a*a*d*d
	}
	return 1
}

// many returns the number of real roots by the discriminant.
func many(f []int) int {
	degree := len(f) - 1
	switch n := discriminant(f); {
	case n > 0:
		return degree
	case n < 0:
		return degree - 2
	case degree == 3 && f[2]*f[2] == 3*f[1]*f[3]:
		// All three roots are the same.
		return 1
	}
	return degree - 1
}

// sign returns the sign of the value at the fraction y/m, where m is positive.
func sign(f []int, y, m int) int {
	sum, power := 0, 1
	for i := len(f) - 1; i >= 0; i-- {
		sum = sum*y + f[i]*power
		power *= m
	}
	return min(max(sum, -1), 1)
}

// places returns a number m and where the roots are: for each root y/m the number
// 2*y, and for each other one between y/m and (y+1)/m the number 2*y+1.
func places(f []int) (m int, twice []int) {
	// All roots that are fractions have a denominator that divides the last
	// coefficient, and multiple roots are fractions. So all other roots change the
	// sign, and there are as many places as roots once m is large enough.
	for m = max(f[len(f)-1], -f[len(f)-1]); m < 1<<15; m *= 2 {
		twice = nil
		next := sign(f, -farOut*m, m)
		for y := -farOut * m; y < farOut*m; y++ {
			here := next
			next = sign(f, y+1, m)
			if here == 0 {
				twice = append(twice, 2*y)
			}
			if here*next < 0 {
				twice = append(twice, 2*y+1)
			}
		}
		if len(twice) == many(f) {
			return m, twice
		}
	}
	panic("two roots are too close together")
}

// wantCount fails the test unless Count returns this and no error.
func wantCount(t *testing.T, f []int, from, to, want int) {
	t.Helper()
	if got, err := Count(f, from, to); got != want || err != nil {
		t.Fatalf("Count(%v, %d, %d) = %d, %v, want %d", f, from, to, got, err, want)
	}
}

// wantAll fails the test unless All returns this and no error, and Check has no
// error.
func wantAll(t *testing.T, f []int, want int) {
	t.Helper()
	if got, err := All(f); got != want || err != nil {
		t.Fatalf("All(%v) = %d, %v, want %d", f, got, err, want)
	}
	if err := Check(f); err != nil {
		t.Fatalf("Check(%v) = %v", f, err)
	}
}

// wantTurns fails the test unless Turns returns this and no error.
func wantTurns(t *testing.T, f []int, want int) {
	t.Helper()
	if got, err := Turns(f); got != want || err != nil {
		t.Fatalf("Turns(%v) = %d, %v, want %d", f, got, err, want)
	}
}

// wantContent fails the test unless Content returns this and no error.
func wantContent(t *testing.T, f []int, want int) {
	t.Helper()
	if got, err := Content(f); got != want || err != nil {
		t.Fatalf("Content(%v) = %d, %v, want %d", f, got, err, want)
	}
}

// wantPlaces fails the test unless Count returns how many roots there are between
// any two of the ends, which are in increasing order, and All how many there are.
func wantPlaces(t *testing.T, f []int, ends ...int) {
	t.Helper()
	m, twice := places(f)
	wantAll(t, f, len(twice))
	for i, to := range ends {
		for _, from := range ends[:i+1] {
			want := 0
			for _, n := range twice {
				if n > 2*m*from && n <= 2*m*to {
					want++
				}
			}
			wantCount(t, f, from, to, want)
		}
	}
}

// ends returns integers from this one to that one.
func ends(from, to int) []int {
	return each(make([]int, to-from+1), func(i, c int) int { return from + i })
}

// wantBad fails the test unless all functions return nothing but this error,
// whatever the ends of the interval are.
func wantBad(t *testing.T, f []int, want api.Errno) {
	t.Helper()
	if err := Check(f); plain.Told(err) != want {
		t.Fatalf("Check(%v) = %v, want %v", f, err, want)
	}
	for _, c := range [][2]int{{0, 2}, {1, 1}, {-100, 100}, {2, 0}, {-101, 0}, {0, 101}, {math.MaxInt, math.MinInt}} {
		if got, err := Count(f, c[0], c[1]); got != 0 || plain.Told(err) != want {
			t.Fatalf("Count(%v, %d, %d) = %d, %v, want 0 and %v", f, c[0], c[1], got, err, want)
		}
	}
	if got, err := All(f); got != 0 || plain.Told(err) != want {
		t.Fatalf("All(%v) = %d, %v, want 0 and %v", f, got, err, want)
	}
	if got, err := Turns(f); got != 0 || plain.Told(err) != want {
		t.Fatalf("Turns(%v) = %d, %v, want 0 and %v", f, got, err, want)
	}
	if got, err := Content(f); got != 0 || plain.Told(err) != want {
		t.Fatalf("Content(%v) = %d, %v, want 0 and %v", f, got, err, want)
	}
}

// wantBadEnds fails the test unless Count returns nothing but ErrRange.
func wantBadEnds(t *testing.T, f []int, from, to int) {
	t.Helper()
	if got, err := Count(f, from, to); got != 0 || plain.Told(err) != api.ErrRange {
		t.Fatalf("Count(%v, %d, %d) = %d, %v, want 0 and ErrRange", f, from, to, got, err)
	}
}

func TestCount(t *testing.T) {
	for _, c := range []struct {
		f              []int
		from, to, want int
	}{
		{[]int{-2, 0, 1}, 0, 2, 1},
		{[]int{-2, 0, 1}, -2, 0, 1},
		{[]int{-2, 0, 1}, -2, 2, 2},
		{[]int{-2, 0, 1}, -1, 1, 0},
		{[]int{-2, 0, 1}, 2, 100, 0},
		{[]int{2, 0, -1}, 0, 2, 1},
		{[]int{1, 0, 1}, -100, 100, 0},
		// The end to is in the interval, and from is not.
		{[]int{-5, 1}, 4, 5, 1},
		{[]int{-5, 1}, 5, 6, 0},
		{[]int{-5, 1}, 5, 5, 0},
		{[]int{-5, 1}, 4, 4, 0},
		{[]int{0, 1}, -1, 0, 1},
		{[]int{0, 1}, 0, 1, 0},
		{[]int{20, 1}, -21, -20, 1},
		{[]int{20, 1}, -20, -19, 0},
		{[]int{-4, 0, 1}, -2, 2, 1},
		{[]int{-4, 0, 1}, -3, 2, 2},
		{[]int{-4, 0, 1}, -2, 1, 0},
		// A multiple root counts once, also at an end.
		{[]int{1, -2, 1}, 0, 1, 1},
		{[]int{1, -2, 1}, 1, 2, 0},
		{[]int{1, -2, 1}, 0, 2, 1},
		{[]int{1, -2, 1}, 1, 1, 0},
		{[]int{0, 0, 0, 7}, -1, 0, 1},
		{[]int{0, 0, 0, -7}, 0, 1, 0},
		{[]int{0, 0, 0, -7}, -1, 1, 1},
		{[]int{0, 0, -1, 1}, -1, 0, 1},
		{[]int{0, 0, -1, 1}, -1, 1, 2},
		{[]int{0, 0, -1, 1}, 0, 1, 1},
		{[]int{0, 0, -1, 1}, 0, 0, 0},
		{[]int{8, 12, 6, 1}, -3, -2, 1},
		{[]int{8, 12, 6, 1}, -2, -1, 0},
		// Two roots that are not integers are between the same ones.
		{[]int{-1, 9, -20}, 0, 1, 2},
		{[]int{1, -9, 20}, 0, 1, 2},
		{[]int{2, -9, 10}, 0, 1, 2},
		{[]int{0, 2, -9, 10}, -1, 1, 3},
		{[]int{0, 2, -9, 10}, 0, 1, 2},
		{[]int{3}, -100, 100, 0},
		{[]int{-20}, 0, 0, 0},
	} {
		wantCount(t, c.f, c.from, c.to, c.want)
	}
}

func TestAll(t *testing.T) {
	for _, c := range []struct {
		f    []int
		want int
	}{
		{[]int{-2, 0, 1}, 2},
		{[]int{1, 0, 1}, 0},
		{[]int{1}, 0},
		{[]int{-20}, 0},
		{[]int{0, 1}, 1},
		{[]int{20, -20}, 1},
		// These roots are the farthest from 0.
		{[]int{20, 1}, 1},
		{[]int{-20, 1}, 1},
		{[]int{-20, -20, 1}, 2},
		{[]int{-20, -20, -20, 1}, 1},
		{[]int{20, -20, 20, 1}, 1},
		{[]int{20, 20, -20, 1}, 3},
		// A multiple root counts once.
		{[]int{0, 0, 1}, 1},
		{[]int{1, 2, 1}, 1},
		{[]int{0, 0, 0, 1}, 1},
		{[]int{-1, 3, -3, 1}, 1},
		{[]int{0, 0, 1, 1}, 2},
		{[]int{-4, 0, 3, 1}, 2},
		{[]int{0, -1, 0, 1}, 3},
		{[]int{0, 1, 0, 1}, 1},
		{[]int{-2, 0, 0, 1}, 1},
		{[]int{1, -3, 0, 1}, 3},
		{[]int{-6, 11, -6, 1}, 3},
	} {
		wantAll(t, c.f, c.want)
		wantPlaces(t, c.f, ends(-mostEnd, mostEnd)...)
	}
}

// TestAllPolynomials has all polynomials that there are.
func TestAllPolynomials(t *testing.T) {
	coefficients := ends(-20, 20)
	for length := 1; length < mostLength; length++ {
		for _, f := range all(length, coefficients...) {
			wantAll(t, f, many(f))
		}
	}
	for _, f := range all(mostLength-1, coefficients...) {
		for _, c := range coefficients {
			cubic := []int{c, f[0], f[1], f[2]}
			if got, err := All(cubic); got != many(cubic) || err != nil {
				t.Fatalf("All(%v) = %d, %v, want %d", cubic, got, err, many(cubic))
			}
		}
	}
}

// TestRests has divisions with known quotients and remainders of all lengths, also
// of those that do not occur in a chain.
func TestRests(t *testing.T) {
	for size := 1; size < mostLength; size++ {
		for length := 1; length < mostLength; length++ {
			for seed := range 100 {
				g, quotient := mixed(size, seed), mixed(length, seed+100)
				f := sample.IntProduct(quotient, g)
				var rest []int
				if seed%size > 0 {
					rest = mixed(seed%size, seed+200)
				}
				for i, c := range rest {
					f[i] += c
				}
				want := each(rest, func(i, c int) int {
					for range quotient {
						c *= max(g[size-1], -g[size-1])
					}
					return -c
				})
				if got := negatedRest(f, g); !slices.Equal(got, want) {
					t.Fatalf("negatedRest(%v, %v) = %v, want %v", f, g, got, want)
				}
			}
		}
	}
}

// TestFewCoefficients has all polynomials of few different coefficients, and all
// ends near their roots, which many of them have among these ends.
func TestFewCoefficients(t *testing.T) {
	for length := 1; length <= mostLength; length++ {
		for _, f := range all(length, -2, -1, 0, 1, 2) {
			wantPlaces(t, f, ends(-4, 4)...)
		}
		for _, f := range all(length, -20, -7, 0, 1, 20) {
			wantPlaces(t, f, -mostEnd, -farOut, -20, -8, -2, -1, 0, 1, 2, 3, 7, 20, farOut, mostEnd)
		}
	}
}

// TestAllLengths has polynomials that follow no plain rule.
func TestAllLengths(t *testing.T) {
	for length := 1; length <= mostLength; length++ {
		for seed := range 300 {
			wantPlaces(t, mixed(length, seed), ends(-farOut, farOut)...)
			wantPlaces(t, mixed(length, seed+300), -mostEnd, -mostEnd+1, -seed%mostEnd, 0, seed%mostEnd, mostEnd-1, mostEnd)
		}
	}
}

// TestFractions has polynomials with known roots, which are fractions, and ends
// next to them.
func TestFractions(t *testing.T) {
	var fractions [][2]int
	for _, below := range []int{1, 2, 3, 5, 20} {
		for _, above := range ends(-20, 20) {
			fractions = append(fractions, [2]int{above, below})
		}
	}
	for i, a := range fractions {
		for _, constant := range []int{1, -1, 4} {
			wantRoots(t, constant, a)
			wantRoots(t, constant, a, a)
			wantRoots(t, constant, a, a, a)
		}
		for j, b := range fractions {
			wantRoots(t, 1, a, b)
			wantRoots(t, -1, a, b, a)
			wantRoots(t, 1, a, b, fractions[(i+j)*19%len(fractions)])
		}
	}
}

// wantRoots fails the test unless Count and All return how many of the fractions,
// each a pair of numerator and denominator, are between two ends. They are the
// roots of a polynomial, which the chapter may not allow.
func wantRoots(t *testing.T, constant int, roots ...[2]int) {
	t.Helper()
	f := []int{constant}
	for _, r := range roots {
		f = sample.IntProduct(f, []int{-r[0], r[1]})
	}
	if !allowed(f) {
		return
	}
	var different [][2]int
	for _, r := range roots {
		if !slices.ContainsFunc(different, func(s [2]int) bool { return r[0]*s[1] == s[0]*r[1] }) {
			different = append(different, r)
		}
	}
	wantAll(t, f, len(different))
	wantContent(t, f, divisor(f))
	for _, r := range roots {
		for from := r[0]/r[1] - 2; from <= r[0]/r[1]+2; from++ {
			for to := from; to <= from+4; to++ {
				want := 0
				for _, s := range different {
					if s[0] > from*s[1] && s[0] <= to*s[1] {
						want++
					}
				}
				wantCount(t, f, from, to, want)
			}
		}
	}
}

// divisor returns the largest number that divides all coefficients.
func divisor(f []int) int {
	for n := 20; ; n-- {
		if !slices.ContainsFunc(f, func(c int) bool { return c%n != 0 }) {
			return n
		}
	}
}

// turnsIn returns the number of pairs of coefficients of different signs that have
// nothing but zeros between them.
func turnsIn(f []int) int {
	count := 0
	for i := range f {
		for j := range i {
			if f[i]*f[j] < 0 && !slices.ContainsFunc(f[j+1:i], func(c int) bool { return c != 0 }) {
				count++
			}
		}
	}
	return count
}

func TestTurns(t *testing.T) {
	for _, c := range []struct {
		f    []int
		want int
	}{
		{[]int{-2, 0, 1}, 1},
		{[]int{5}, 0},
		{[]int{-5}, 0},
		{[]int{0, 1}, 0},
		{[]int{0, 0, 0, -1}, 0},
		{[]int{1, 0, 0, -1}, 1},
		{[]int{1, 0, 0, 1}, 0},
		{[]int{-1, 0, -1}, 0},
		{[]int{1, -1}, 1},
		{[]int{-1, 1}, 1},
		{[]int{1, -1, 1}, 2},
		{[]int{1, -1, -1, 1}, 2},
		{[]int{1, 0, -1, 1}, 2},
		{[]int{1, -1, 0, 1}, 2},
		{[]int{20, -20, 20, -20}, 3},
		{[]int{-1, 20, -1, 20}, 3},
		{[]int{1, 2, 3, 4}, 0},
	} {
		wantTurns(t, c.f, c.want)
	}
}

// TestAllTurns has all signs of all coefficients. By the rule of Descartes, no
// fewer signs change than there are positive roots, and the others come in pairs
// if no root is multiple.
func TestAllTurns(t *testing.T) {
	for length := 1; length <= mostLength; length++ {
		for _, f := range all(length, -20, -3, -1, 0, 1, 7, 20) {
			want := turnsIn(f)
			wantTurns(t, f, want)
			positive, err := Count(f, 0, farOut)
			if err != nil {
				t.Fatalf("Count(%v, 0, %d) has error %v", f, farOut, err)
			}
			if positive > want || discriminant(f) != 0 && (want-positive)%2 != 0 {
				t.Fatalf("%v has %d positive roots and %d sign changes", f, positive, want)
			}
		}
	}
}

func TestContent(t *testing.T) {
	for _, c := range []struct {
		f    []int
		want int
	}{
		{[]int{4, 6}, 2},
		{[]int{1}, 1},
		{[]int{20}, 20},
		{[]int{-20}, 20},
		{[]int{0, -7}, 7},
		{[]int{0, 0, 0, 12}, 12},
		{[]int{-4, -6}, 2},
		{[]int{-4, 6}, 2},
		{[]int{4, -6}, 2},
		{[]int{6, 10, 15}, 1},
		{[]int{12, 0, 18}, 6},
		{[]int{12, 18, 20}, 2},
		{[]int{20, 10, 20, 1}, 1},
		{[]int{1, 20, 10, 20}, 1},
		{[]int{20, -20, 0, 20}, 20},
		{[]int{3, 0, 0, -9}, 3},
	} {
		wantContent(t, c.f, c.want)
	}
}

// TestAllContents has all short polynomials, and others.
func TestAllContents(t *testing.T) {
	for length := 1; length <= 3; length++ {
		for _, f := range all(length, ends(-20, 20)...) {
			wantContent(t, f, divisor(f))
		}
	}
	for _, f := range all(mostLength, -20, -15, -9, 0, 4, 6, 10, 12) {
		wantContent(t, f, divisor(f))
	}
}

// TestNone has empty lists.
func TestNone(t *testing.T) {
	for _, f := range [][]int{nil, {}, make([]int, 0, 5), mixed(4, 1)[:0], mixed(4, 1)[4:]} {
		wantBad(t, f, api.ErrNone)
	}
}

// TestFull has more coefficients than there may be. That comes before what they
// are.
func TestFull(t *testing.T) {
	for _, length := range []int{5, 6, 7, 8, 16, 100, 255, 256, 257, 1_000} {
		wantBad(t, mixed(length, length), api.ErrFull)
		wantBad(t, make([]int, length), api.ErrFull)
		for _, n := range append(kind().Outside(), 1, -20, 20) {
			wantBad(t, slices.Repeat([]int{n}, length), api.ErrFull)
			for _, i := range []int{0, 3, 4, length - 1} {
				f := mixed(length, i)
				f[i] = n
				wantBad(t, f, api.ErrFull)
				f[length-1] = 0
				wantBad(t, f, api.ErrFull)
			}
		}
	}
}

// TestRange has a number that is no coefficient at each place. That comes before a
// zero at the end.
func TestRange(t *testing.T) {
	for length := 1; length <= mostLength; length++ {
		for _, n := range kind().Outside() {
			wantBad(t, slices.Repeat([]int{n}, length), api.ErrRange)
			for i := range length {
				for _, f := range [][]int{mixed(length, i), make([]int, length), append(mixed(length, i)[:length-1], 0)} {
					f[i] = n
					wantBad(t, f, api.ErrRange)
				}
			}
		}
	}
}

// TestShape has a zero at the end.
func TestShape(t *testing.T) {
	for length := 1; length <= mostLength; length++ {
		wantBad(t, make([]int, length), api.ErrShape)
		for seed := range 50 {
			f := mixed(length, seed)
			f[length-1] = 0
			wantBad(t, f, api.ErrShape)
		}
		for _, n := range []int{-20, 1, 20} {
			wantBad(t, append(slices.Repeat([]int{n}, length-1), 0), api.ErrShape)
		}
	}
}

// TestCoefficients has all coefficients at all places.
func TestCoefficients(t *testing.T) {
	for length := 1; length <= mostLength; length++ {
		for i := range length {
			for _, c := range ends(-20, 20) {
				f := mixed(length, c+40)
				f[i] = c
				if f[length-1] == 0 {
					wantBad(t, f, api.ErrShape)
					continue
				}
				wantPlaces(t, f, -mostEnd, -5, -1, 0, 1, 5, mostEnd)
				wantTurns(t, f, turnsIn(f))
				wantContent(t, f, divisor(f))
			}
		}
	}
}

// TestEnds has all ends that there may be, in both orders, and others. A list that
// is no polynomial comes before them, as wantBad has it.
func TestEnds(t *testing.T) {
	polynomials := [][]int{{7}, {-5, 1}, {-2, 0, 1}, {0, 0, 0, 1}}
	beyond := []int{
		math.MinInt, math.MinInt + 1, -1 << 32, -1 << 31, -1_000, -257, -156, -102, -101,
		101, 102, 156, 256, 257, 1_000, 1 << 31, 1 << 32, 1<<32 + 5, math.MaxInt,
	}
	for _, f := range polynomials {
		wantPlaces(t, f, ends(-mostEnd, mostEnd)...)
		for from := -mostEnd; from <= mostEnd; from++ {
			for to := -mostEnd; to < from; to++ {
				wantBadEnds(t, f, from, to)
			}
			for _, n := range beyond {
				wantBadEnds(t, f, from, n)
				wantBadEnds(t, f, n, from)
			}
		}
		for _, m := range beyond {
			for _, n := range beyond {
				wantBadEnds(t, f, m, n)
			}
		}
	}
}

// TestArguments calls all functions again and again, and checks that the list
// stays as it is, with its spare capacity, and the results too.
func TestArguments(t *testing.T) {
	lists := [][]int{nil, {0}, {1, 0}, {21}, make([]int, 5)}
	for length := 1; length <= mostLength; length++ {
		for seed := range 50 {
			lists = append(lists, mixed(length, seed))
		}
	}
	for _, list := range lists {
		l := sample.Spacious([][]int{list})
		before := sample.Whole(l)
		want := resultsOf(l[0])
		for range 2 {
			if got := resultsOf(l[0]); got != want {
				t.Fatalf("of %v, the results are first %v and later %v", list, want, got)
			}
		}
		if !sample.Same(sample.Whole(l), before) {
			t.Fatalf("%v became %v", before, sample.Whole(l))
		}
	}
}

// resultsOf returns the results of all functions, and their errors as numbers.
func resultsOf(f []int) [9]int {
	count, countErr := Count(f, -3, 2)
	number, allErr := All(f)
	turns, turnsErr := Turns(f)
	content, contentErr := Content(f)
	return [9]int{
		count, int(plain.Told(countErr)), number, int(plain.Told(allErr)), turns, int(plain.Told(turnsErr)),
		content, int(plain.Told(contentErr)), int(plain.Told(Check(f))),
	}
}
