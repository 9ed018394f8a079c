package recur

import (
	"math"
	"math/big"
	"slices"
	"testing"

	"rankmere/api"
	"rankmere/plain"
	"rankmere/sample"
)

// all is how many terms Term knows, one more than Row returns.
const all = 1_001

// terms returns the first terms of a sequence. The terms that the next one needs
// move on by one place each time, the last one first.
func terms(factors, start []int, many int) []int {
	recent := slices.Clone(start)
	slices.Reverse(recent)
	var l []int
	for range many {
		l = append(l, recent[len(recent)-1])
		sum := 0
		for i, n := range recent {
			sum = (sum + factors[i]*n) % 9_973
		}
		recent = slices.Insert(recent[:len(recent)-1], 0, sum)
	}
	return l
}

// wholeTerms returns the first terms of a sequence, which are computed as
// integers and reduced only at the end.
func wholeTerms(factors, start []int, many int) []int {
	var whole []*big.Int
	var l []int
	for k := range many {
		sum := new(big.Int)
		if k < len(start) {
			sum.SetInt64(int64(start[k]))
		} else {
			for i, factor := range factors {
				sum.Add(sum, new(big.Int).Mul(big.NewInt(int64(factor)), whole[k-1-i]))
			}
		}
		whole = append(whole, sum)
		l = append(l, int(new(big.Int).Mod(sum, big.NewInt(9_973)).Int64()))
	}
	return l
}

// wantRow fails the test unless Row returns this and no error.
func wantRow(t *testing.T, factors, start []int, many int, want []int) {
	t.Helper()
	if got, err := Row(factors, start, many); !slices.Equal(got, want) || err != nil {
		t.Fatalf("Row(%v, %v, %d) = %v, %v, want %v", factors, start, many, got, err, want)
	}
}

// wantTerm fails the test unless Term returns this and no error.
func wantTerm(t *testing.T, factors, start []int, at, want int) {
	t.Helper()
	if got, err := Term(factors, start, at); got != want || err != nil {
		t.Fatalf("Term(%v, %v, %d) = %d, %v, want %d", factors, start, at, got, err, want)
	}
}

// wantFirst fails the test unless a sequence begins with these terms, for all
// that begins with fewer of them too, and Check has no error.
func wantFirst(t *testing.T, factors, start, want []int) {
	t.Helper()
	if err := Check(factors, start); err != nil {
		t.Fatalf("Check(%v, %v) = %v", factors, start, err)
	}
	for many := range len(want) + 1 {
		wantRow(t, factors, start, many, want[:many])
	}
	for at, n := range want {
		wantTerm(t, factors, start, at, n)
	}
}

// wantRight fails the test unless the first terms of a sequence and the last ones
// that there may be are right.
func wantRight(t *testing.T, factors, start []int) {
	t.Helper()
	want := terms(factors, start, all)
	wantFirst(t, factors, start, want[:2*len(start)+3])
	wantRow(t, factors, start, 1_000, want[:1_000])
	for _, at := range []int{100, 127, 128, 511, 512, 998, 999, 1_000} {
		wantTerm(t, factors, start, at, want[at])
	}
}

// wantRowError fails the test unless Row returns nothing but this error.
func wantRowError(t *testing.T, factors, start []int, many int, want api.Errno) {
	t.Helper()
	if got, err := Row(factors, start, many); len(got) != 0 || plain.Told(err) != want {
		t.Fatalf("Row(%v, %v, %d) = %v, %v, want nothing and %v", factors, start, many, got, err, want)
	}
}

// wantTermError fails the test unless Term returns nothing but this error.
func wantTermError(t *testing.T, factors, start []int, at int, want api.Errno) {
	t.Helper()
	if got, err := Term(factors, start, at); got != 0 || plain.Told(err) != want {
		t.Fatalf("Term(%v, %v, %d) = %d, %v, want 0 and %v", factors, start, at, got, err, want)
	}
}

// wantBad fails the test unless all functions return nothing but this error of a
// recurrence, whichever terms are asked for.
func wantBad(t *testing.T, factors, start []int, want api.Errno) {
	t.Helper()
	if err := Check(factors, start); plain.Told(err) != want {
		t.Fatalf("Check(%v, %v) = %v, want %v", factors, start, err, want)
	}
	for _, n := range []int{0, 1, len(start), 1_000, 1_001, -1, math.MinInt, math.MaxInt} {
		wantRowError(t, factors, start, n, want)
		wantTermError(t, factors, start, n, want)
	}
}

func TestFirst(t *testing.T) {
	for _, c := range []struct{ factors, start, want []int }{
		{[]int{1, 1}, []int{0, 1}, []int{0, 1, 1, 2, 3, 5, 8, 13, 21, 34, 55, 89, 144, 233, 377, 610, 987}},
		{[]int{1, 1}, []int{2, 1}, []int{2, 1, 3, 4, 7, 11, 18, 29, 47, 76}},
		{[]int{1, 1}, []int{4_181, 6_765}, []int{4_181, 6_765, 973, 7_738, 8_711, 6_476}},
		{[]int{2}, []int{1}, []int{1, 2, 4, 8, 16, 32, 64, 128, 256, 512, 1_024, 2_048, 4_096, 8_192, 6_411, 2_849}},
		{[]int{1}, []int{7}, []int{7, 7, 7, 7, 7}},
		{[]int{0}, []int{7}, []int{7, 0, 0, 0, 0}},
		{[]int{7}, []int{0}, []int{0, 0, 0, 0, 0}},
		{[]int{9_972}, []int{1}, []int{1, 9_972, 1, 9_972, 1}},
		{[]int{9_972}, []int{9_972}, []int{9_972, 1, 9_972, 1, 9_972}},
		{[]int{100}, []int{100}, []int{100, 27, 2_700, 729}},
		// The first factor is that of the last term.
		{[]int{1, 10}, []int{2, 3}, []int{2, 3, 23, 53, 283, 813}},
		{[]int{10, 1}, []int{2, 3}, []int{2, 3, 32, 323, 3_262, 3_024}},
		{[]int{1, 0}, []int{2, 3}, []int{2, 3, 3, 3, 3}},
		{[]int{0, 1}, []int{2, 3}, []int{2, 3, 2, 3, 2}},
		{[]int{0, 0}, []int{2, 3}, []int{2, 3, 0, 0, 0}},
		{[]int{2, 9_972}, []int{0, 1}, []int{0, 1, 2, 3, 4, 5, 6}},
		{[]int{2, 9_972}, []int{5, 3}, []int{5, 3, 1, 9_972, 9_970, 9_968}},
		{[]int{1, 9_972}, []int{0, 1}, []int{0, 1, 1, 0, 9_972, 9_972, 0, 1, 1}},
		{[]int{0, 9_972}, []int{1, 2}, []int{1, 2, 9_972, 9_971, 1, 2}},
		{[]int{9_972, 9_972}, []int{9_972, 9_972}, []int{9_972, 9_972, 2, 9_972, 9_972, 2}},
		{[]int{1, 1, 1}, []int{0, 0, 1}, []int{0, 0, 1, 1, 2, 4, 7, 13, 24, 44, 81}},
		{[]int{100, 10, 1}, []int{1, 2, 3}, []int{1, 2, 3, 321, 2_213, 5_107}},
		{[]int{3, 9_970, 1}, []int{0, 1, 4}, []int{0, 1, 4, 9, 16, 25, 36, 49, 64}},
		{[]int{0, 1, 1}, []int{3, 0, 2}, []int{3, 0, 2, 3, 2, 5, 5, 7, 10, 12, 17, 22, 29}},
		{[]int{4, 9_967, 4, 9_972}, []int{0, 1, 8, 27}, []int{0, 1, 8, 27, 64, 125, 216, 343, 512}},
		{[]int{0, 0, 0, 1}, []int{6, 7, 8, 9}, []int{6, 7, 8, 9, 6, 7, 8, 9, 6}},
		{[]int{1, 0, 0, 1}, []int{1, 1, 1, 1}, []int{1, 1, 1, 1, 2, 3, 4, 5, 7, 10, 14, 19}},
		{[]int{1, 1, 1, 1, 1}, []int{0, 0, 0, 0, 1}, []int{0, 0, 0, 0, 1, 1, 2, 4, 8, 16, 31, 61, 120}},
		{[]int{1, 2, 3, 4, 5}, []int{1, 0, 0, 0, 0}, []int{1, 0, 0, 0, 0, 5, 5, 15, 40}},
		{[]int{1, 2, 3, 4, 5}, []int{0, 0, 0, 0, 1}, []int{0, 0, 0, 0, 1, 1, 3, 8, 21, 55}},
		{[]int{0, 0, 0, 0, 9_972}, []int{1, 2, 3, 4, 5}, []int{1, 2, 3, 4, 5, 9_972, 9_971, 9_970, 9_969, 9_968, 1, 2}},
		{slices.Repeat([]int{9_972}, 5), slices.Repeat([]int{9_972}, 5), []int{9_972, 9_972, 9_972, 9_972, 9_972, 5, 9_972}},
		{make([]int, 5), sample.Numbers(5, 1), append(sample.Numbers(5, 1), make([]int, 7)...)},
		{sample.Numbers(5, 2), make([]int, 5), make([]int, 15)},
	} {
		wantFirst(t, c.factors, c.start, c.want)
		wantRight(t, c.factors, c.start)
	}
}

// TestLast has the last terms that there may be, by rules of their own.
func TestLast(t *testing.T) {
	for _, at := range []int{997, 998, 999, 1_000} {
		wantTerm(t, []int{1}, []int{7}, at, 7)
		wantTerm(t, []int{0}, []int{7}, at, 0)
		wantTerm(t, []int{2}, []int{1}, at, sample.Power(2, at))
		wantTerm(t, []int{9_972}, []int{1}, at, []int{1, 9_972}[at%2])
		wantTerm(t, []int{2, 9_972}, []int{0, 1}, at, at)
		wantTerm(t, []int{2, 9_972}, []int{5, 8}, at, 5+3*at)
		wantTerm(t, []int{3, 9_970, 1}, []int{0, 1, 4}, at, at*at%9_973)
		wantTerm(t, []int{4, 9_967, 4, 9_972}, []int{0, 1, 8, 27}, at, at*at*at%9_973)
		wantTerm(t, []int{5, 9_963, 10, 9_968, 1}, []int{0, 1, 16, 81, 256}, at, at*at%9_973*at%9_973*at%9_973)
		wantTerm(t, []int{0, 0, 0, 0, 1}, []int{6, 7, 8, 9, 10}, at, 6+at%5)
	}
	// A row has one term less than Term knows.
	row := make([]int, 1_000)
	for i := range row {
		row[i] = i
	}
	wantRow(t, []int{2, 9_972}, []int{0, 1}, 1_000, row)
	wantRow(t, []int{2, 9_972}, []int{0, 1}, 999, row[:999])
}

// TestAllTerms has all lengths of rows and all indices.
func TestAllTerms(t *testing.T) {
	for size := 1; size <= 5; size++ {
		factors, start := sample.Numbers(size, 3), sample.Numbers(size, 4)
		want := wholeTerms(factors, start, all)
		for many := range all {
			wantRow(t, factors, start, many, want[:many])
		}
		for at, n := range want {
			wantTerm(t, factors, start, at, n)
		}
	}
}

// TestWhole compares with terms that are not reduced before they are complete.
func TestWhole(t *testing.T) {
	for size := 1; size <= 5; size++ {
		for seed := range 50 {
			factors, start := sample.Numbers(size, seed), sample.Numbers(size, seed+100)
			wantFirst(t, factors, start, wholeTerms(factors, start, 30))
		}
		large := slices.Repeat([]int{9_972}, size)
		wantFirst(t, large, large, wholeTerms(large, large, 100))
	}
}

// TestAllSizes has numbers that follow no plain rule, and few different ones, of
// which there are more zeros.
func TestAllSizes(t *testing.T) {
	for size := 1; size <= 5; size++ {
		for seed := range 50 {
			wantRight(t, sample.Numbers(size, seed), sample.Numbers(size, seed+200))
			for most := 1; most <= 3; most++ {
				l := sample.Kind{Side: 5, Least: 0, Most: most}.Mixed(2, size, seed)
				wantRight(t, l[0], l[1])
			}
		}
	}
}

// TestFewElements has all recurrences of few factors and few different elements.
func TestFewElements(t *testing.T) {
	for _, c := range []struct {
		size     int
		elements []int
	}{
		{1, []int{0, 1, 2, 4_986, 4_987, 9_971, 9_972}},
		{2, []int{0, 1, 2, 9_972}},
		{3, []int{0, 1, 9_972}},
		{4, []int{0, 1}},
		{5, []int{0, 1}},
	} {
		for l := range sample.All(2, c.size, c.elements...) {
			want := terms(l[0], l[1], 2*c.size+2)
			wantRow(t, l[0], l[1], len(want), want)
			for _, at := range []int{0, c.size - 1, c.size, 2*c.size + 1} {
				wantTerm(t, l[0], l[1], at, want[at])
			}
		}
	}
}

// TestAllElements has all elements as factors and as terms.
func TestAllElements(t *testing.T) {
	for n := range 9_973 {
		square := n * n % 9_973
		wantFirst(t, []int{n}, []int{1}, []int{1, n, square, square * n % 9_973})
		wantFirst(t, []int{1}, []int{n}, []int{n, n, n})
		wantFirst(t, []int{9_972}, []int{n}, []int{n, sample.Element(-n), n})
		wantFirst(t, []int{n, 9_972}, []int{9_972, n}, []int{9_972, n, (square + 1) % 9_973})
		wantFirst(t, []int{9_972, n}, []int{n, 9_972}, []int{n, 9_972, (square + 1) % 9_973})
	}
}

// TestPlaces has one element that is not 0 among the factors, and one among the
// initial terms, at all places: the one term returns, times the factor, after as
// many places as the factor says.
func TestPlaces(t *testing.T) {
	for size := 1; size <= 5; size++ {
		for i := range size {
			for k := range size {
				for _, n := range []int{1, 2, 9_972} {
					factors, start := sample.With(1, size, 0, i, n)[0], sample.With(1, size, 0, k, 3)[0]
					want := append(slices.Clone(start), make([]int, 20)...)
					for at := k + i + 1; at < len(want); at += i + 1 {
						if at >= size {
							want[at] = want[at-i-1] * n % 9_973
						}
					}
					wantFirst(t, factors, start, want)
					wantRight(t, factors, start)
				}
			}
		}
	}
}

// TestSums has the terms for sums and multiples of initial terms, which are those
// of the terms.
func TestSums(t *testing.T) {
	for size := 1; size <= 5; size++ {
		for seed := range 20 {
			factors, start := sample.Numbers(size, seed), sample.Numbers(size, seed+100)
			want := make([]int, 1_000)
			for k, n := range start {
				row, err := Row(factors, sample.Unit(size)[k], 1_000)
				if err != nil {
					t.Fatal(err)
				}
				for i, term := range row {
					want[i] = (want[i] + n*term) % 9_973
				}
			}
			wantRow(t, factors, start, 1_000, want)
			wantTerm(t, factors, start, 999, want[999])
		}
	}
}

// TestRoots has sums of powers, which need no recurrence.
func TestRoots(t *testing.T) {
	for size := 1; size <= 5; size++ {
		for seed := range 20 {
			roots, times := sample.Numbers(size, seed), sample.Numbers(size, seed+100)
			row := make([]int, 40)
			for at := range row {
				for k, x := range roots {
					row[at] = (row[at] + times[k]*sample.Power(x, at)) % 9_973
				}
			}
			factors := sample.FactorsOf(roots)
			wantFirst(t, factors, row[:size], row)
			last := 0
			for k, x := range roots {
				last = (last + times[k]*sample.Power(x, 1_000)) % 9_973
			}
			wantTerm(t, factors, row[:size], 1_000, last)
		}
	}
}

// TestLater begins with later terms of a sequence, which then goes on in the same
// way.
func TestLater(t *testing.T) {
	for size := 1; size <= 5; size++ {
		for seed := range 5 {
			factors, start := sample.Numbers(size, seed), sample.Numbers(size, seed+100)
			row, err := Row(factors, start, 1_000)
			if err != nil {
				t.Fatal(err)
			}
			for _, from := range []int{1, 2, size, 100, 999 - size} {
				part := row[from : from+size]
				wantRow(t, factors, part, 1_000-from, row[from:])
				wantTerm(t, factors, part, 999-from, row[999])
			}
		}
	}
}

// TestPeriods has powers of powers of an element, which repeat themselves because
// its power of 9972 is 1.
func TestPeriods(t *testing.T) {
	for _, x := range []int{1, 2, 3, 11, 4_986, 9_971, 9_972} {
		for _, n := range []int{12, 18, 36} {
			period := 9_972 / n
			factors := []int{sample.Power(x, n)}
			row, err := Row(factors, []int{5}, 1_000)
			if err != nil || !slices.Equal(row[period:], row[:1_000-period]) {
				t.Fatalf("Row(%v, [5], 1000) = %v, %v, want a period of %d", factors, row, err, period)
			}
			wantTerm(t, factors, []int{5}, period, 5)
		}
	}
}

// TestEmpty has no factors. That comes before what else there is.
func TestEmpty(t *testing.T) {
	for _, factors := range [][]int{nil, {}, sample.Numbers(5, 1)[:0]} {
		for _, start := range [][]int{nil, {}, {0}, {1, 2}, {-1}, {9_973}, make([]int, 5), make([]int, 6), make([]int, 1_000)} {
			wantBad(t, factors, start, api.ErrNone)
		}
	}
}

// TestTooMany has too many factors. That comes before what they are, and before
// how many initial terms there are.
func TestTooMany(t *testing.T) {
	for _, size := range []int{6, 7, 8, 10, 11, 100, 1_000, 1_001} {
		for _, n := range []int{0, 1, 9_972, -1, 9_973} {
			factors := slices.Repeat([]int{n}, size)
			for _, length := range []int{0, 1, 4, 5, 6, size - 1, size, size + 1} {
				wantBad(t, factors, slices.Repeat([]int{n}, length), api.ErrFull)
				wantBad(t, factors, slices.Repeat([]int{1}, length), api.ErrFull)
			}
		}
	}
}

// TestShape has more or fewer initial terms than factors. That comes before what
// both of them are.
func TestShape(t *testing.T) {
	for size := 1; size <= 5; size++ {
		for _, length := range []int{0, 1, 2, 3, 4, 5, 6, 7, 8, 10, 100, 1_000} {
			if length == size {
				continue
			}
			for _, n := range []int{0, 1, 9_972, -1, 9_973} {
				wantBad(t, sample.Numbers(size, 1), slices.Repeat([]int{n}, length), api.ErrShape)
				wantBad(t, slices.Repeat([]int{n}, size), sample.Numbers(length, 2), api.ErrShape)
				wantBad(t, slices.Repeat([]int{n}, size), slices.Repeat([]int{n}, length), api.ErrShape)
			}
		}
		wantBad(t, sample.Numbers(size, 3), nil, api.ErrShape)
		// Spare capacity does not count.
		wantBad(t, sample.Numbers(size, 3), sample.Numbers(size, 4)[:size-1], api.ErrShape)
		wantBad(t, sample.Numbers(size+1, 3)[:size], sample.Numbers(size+1, 4), api.ErrShape)
	}
}

// TestRange has a number that is no element at each place.
func TestRange(t *testing.T) {
	for size := 1; size <= 5; size++ {
		for i := range size {
			for _, n := range sample.Outside() {
				for _, good := range [][]int{sample.Numbers(size, 5), make([]int, size), slices.Repeat([]int{1}, size)} {
					bad := slices.Clone(good)
					bad[i] = n
					wantBad(t, bad, good, api.ErrRange)
					wantBad(t, good, bad, api.ErrRange)
					wantBad(t, bad, bad, api.ErrRange)
				}
			}
		}
		for _, n := range sample.Outside() {
			wantBad(t, slices.Repeat([]int{n}, size), slices.Repeat([]int{n}, size), api.ErrRange)
		}
	}
}

// TestLimits has lengths of rows and indices on both sides of their limits.
func TestLimits(t *testing.T) {
	for size := 1; size <= 5; size++ {
		for _, l := range [][][]int{
			{sample.Numbers(size, 6), sample.Numbers(size, 7)}, {make([]int, size), sample.Numbers(size, 8)},
			{sample.Numbers(size, 9), make([]int, size)}, sample.Filled(2, size, 1),
		} {
			factors, start := l[0], l[1]
			for _, n := range []int{
				-1, -2, -size, -1_000, -1_001, 1_001, 1_002, 1_005, 1_006, 2_000, 9_973, 1_000_000, -1_000_000,
				1 << 32, 1<<32 + 5, -1 << 32, math.MaxInt, math.MaxInt - 1, math.MinInt, math.MinInt + 1,
			} {
				wantRowError(t, factors, start, n, api.ErrRange)
				wantTermError(t, factors, start, n, api.ErrRange)
			}
			want := terms(factors, start, all)
			for _, n := range []int{0, 1, size - 1, size, size + 1, 999, 1_000} {
				wantRow(t, factors, start, n, want[:n])
				wantTerm(t, factors, start, n, want[n])
			}
		}
	}
}

// checkArguments calls all functions again and again, and checks that arguments
// stay as they are, with their spare capacity, and that rows do so whatever is
// done to other rows and to the arguments.
func checkArguments(t *testing.T, factors, start []int, n int) {
	t.Helper()
	l := sample.Spacious([][]int{factors, start})
	before := sample.Whole(l)
	first, firstErr := Row(l[0], l[1], n)
	want := slices.Clone(first)
	term, termErr := Term(l[0], l[1], n)
	good := Check(l[0], l[1])
	for range 2 {
		next, err := Row(l[0], l[1], n)
		if !slices.Equal(next, want) || plain.Told(err) != plain.Told(firstErr) {
			t.Fatalf("of %v, %d, the rows are first %v, %v and later %v, %v", before, n, want, firstErr, next, err)
		}
		if got, err := Term(l[0], l[1], n); got != term || plain.Told(err) != plain.Told(termErr) {
			t.Fatalf("of %v, %d, the terms are first %d, %v and later %d, %v", before, n, term, termErr, got, err)
		}
		if err := Check(l[0], l[1]); plain.Told(err) != plain.Told(good) {
			t.Fatalf("of %v, Check is first %v and later %v", before, good, err)
		}
		sample.Spoil([][]int{next})
		if !slices.Equal(first, want) {
			t.Fatalf("of %v, %d, two rows share memory", before, n)
		}
	}
	if !sample.Same(sample.Whole(l), before) {
		t.Fatalf("arguments %v became %v", before, sample.Whole(l))
	}
	sample.Spoil(l)
	if !slices.Equal(first, want) {
		t.Fatalf("of %v, %d, the row shares memory with the arguments", before, n)
	}
}

func TestArguments(t *testing.T) {
	for size := 1; size <= 6; size++ {
		for _, start := range [][]int{nil, sample.Numbers(size, 1), make([]int, size), make([]int, size+1), slices.Repeat([]int{-1}, size)} {
			for _, factors := range [][]int{nil, sample.Numbers(size, 2), make([]int, size), slices.Repeat([]int{9_973}, size)} {
				for _, n := range []int{0, 1, size - 1, size, size + 1, 10, 1_000, 1_001, -1} {
					checkArguments(t, factors, start, n)
				}
			}
		}
	}
}

// TestSharedArguments has factors and initial terms that are the same memory, or
// overlap.
func TestSharedArguments(t *testing.T) {
	line := sample.Numbers(8, 3)
	before := slices.Clone(line)
	for range 2 {
		for size := 1; size <= 5; size++ {
			for from := range 4 {
				wantRight(t, line[:size], line[from:from+size])
				wantRight(t, line[from:from+size], line[:size])
			}
		}
		if !slices.Equal(line, before) {
			t.Fatalf("%v became %v", before, line)
		}
	}
}

// TestStep checks the matrix that goes on by one term.
func TestStep(t *testing.T) {
	for _, c := range []struct {
		factors []int
		want    [][]int
	}{
		{[]int{7}, [][]int{{7}}},
		{[]int{7, 8}, [][]int{{0, 1}, {8, 7}}},
		{[]int{7, 8, 9}, [][]int{{0, 1, 0}, {0, 0, 1}, {9, 8, 7}}},
	} {
		if got := step(c.factors); !sample.Same(got, c.want) {
			t.Errorf("step(%v) = %v, want %v", c.factors, got, c.want)
		}
	}
}
