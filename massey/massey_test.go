package massey

import (
	"math"
	"slices"
	"testing"

	"rankmere/api"
	"rankmere/plain"
	"rankmere/sample"
)

// most is how many terms or coefficients there may be.
const most = 16

// few returns numbers below a small one that follow no plain rule.
func few(length, below, seed int) []int {
	return sample.Kind{Side: most, Least: 0, Most: below - 1}.Mixed(1, length, seed)[0]
}

// zeros returns a list of zeros, and behind them some numbers.
func zeros(many int, behind ...int) []int {
	return append(make([]int, many), behind...)
}

// inverse returns the inverse of an element, by the theorem of Fermat.
func inverse(x int) int {
	p := 1
	for n := 9_971; n > 0; n /= 2 {
		if n%2 == 1 {
			p = p * x % 9_973
		}
		x = x * x % 9_973
	}
	return p
}

// goOn returns a row of this length that begins with start, or with a part of it,
// and goes on by coefficients, of which there are no more than terms in start.
func goOn(start, factors []int, length int) []int {
	row := slices.Clone(start)
	for len(row) < length {
		sum, back := 0, slices.Clone(row)
		slices.Reverse(back)
		for i, factor := range factors {
			sum = (sum + factor*back[i]) % 9_973
		}
		row = append(row, sum)
	}
	return row[:length]
}

// generate tells whether coefficients generate a row.
func generate(row, factors []int) bool {
	if len(row) <= len(factors) {
		return true
	}
	return slices.Equal(goOn(row[:len(factors)], factors, len(row)), row)
}

// equations returns the conditions on this many coefficients that generate a row:
// the factors of the unknown coefficients, and behind them the sum.
func equations(row []int, size int) [][]int {
	var m [][]int
	for at := size; at < len(row); at++ {
		equation := slices.Clone(row[at-size : at])
		slices.Reverse(equation)
		m = append(m, append(equation, row[at]))
	}
	return m
}

// eliminate brings equations into a form in which each of the first ones has an
// unknown for itself, and returns how many these are.
func eliminate(m [][]int, unknowns int) int {
	rank := 0
	for j := range unknowns {
		i := slices.IndexFunc(m[rank:], func(row []int) bool { return row[j] != 0 })
		if i < 0 {
			continue
		}
		m[rank], m[rank+i] = m[rank+i], m[rank]
		top := m[rank]
		scale := inverse(top[j])
		for k := range top {
			top[k] = top[k] * scale % 9_973
		}
		for i, row := range m {
			factor := row[j]
			for k := range row {
				if i != rank {
					row[k] = sample.Element(row[k] - factor*top[k])
				}
			}
		}
		rank++
	}
	return rank
}

// solution returns the only coefficients of this number that generate a row, or
// nil if there are others, and tells whether there are any.
func solution(row []int, size int) (factors []int, is bool) {
	m := equations(row, size)
	rank := eliminate(m, size)
	for _, rest := range m[rank:] {
		if rest[size] != 0 {
			return nil, false
		}
	}
	if rank < size {
		return nil, true
	}
	factors = []int{}
	for _, line := range m[:rank] {
		factors = append(factors, line[size])
	}
	return factors, true
}

// fewest returns the smallest number of coefficients that generate a row, and
// these coefficients if there are no others, or else nil.
func fewest(row []int) (size int, factors []int) {
	for {
		factors, is := solution(row, size)
		if is {
			return size, factors
		}
		size++
	}
}

// wantFewest fails the test unless Fewest returns this and no error, and Check has
// no error.
func wantFewest(t *testing.T, row []int, want int) {
	t.Helper()
	if got, err := Fewest(row); got != want || err != nil {
		t.Fatalf("Fewest(%v) = %d, %v, want %d", row, got, err, want)
	}
	if err := Check(row); err != nil {
		t.Fatalf("Check(%v) = %v", row, err)
	}
}

// wantFactors fails the test unless Factors returns these and no error, which are
// as many as Fewest says.
func wantFactors(t *testing.T, row, want []int) {
	t.Helper()
	wantFewest(t, row, len(want))
	if got, err := Factors(row); !slices.Equal(got, want) || err != nil {
		t.Fatalf("Factors(%v) = %v, %v, want %v", row, got, err, want)
	}
}

// wantNone fails the test unless Fewest returns this, and Factors nothing but the
// error that there are others.
func wantNone(t *testing.T, row []int, size int) {
	t.Helper()
	wantFewest(t, row, size)
	if got, err := Factors(row); len(got) != 0 || plain.Told(err) != api.ErrNone {
		t.Fatalf("Factors(%v) = %v, %v, want nothing and ErrNone", row, got, err)
	}
}

// wantGoes fails the test unless Goes returns this and no error.
func wantGoes(t *testing.T, row, factors []int, want bool) {
	t.Helper()
	if got, err := Goes(row, factors); got != want || err != nil {
		t.Fatalf("Goes(%v, %v) = %v, %v, want %v", row, factors, got, err, want)
	}
}

// wantRight fails the test unless Fewest and Factors of a row are those of the
// elimination. It also checks that this has one solution where the document says
// so, and that Goes finds it right.
func wantRight(t *testing.T, row []int) {
	t.Helper()
	size, factors := fewest(row)
	if 2*size > len(row) {
		if factors != nil {
			t.Fatalf("of %v there are only %v", row, factors)
		}
		wantNone(t, row, size)
		return
	}
	if factors == nil {
		t.Fatalf("of %v there are several lists of %d coefficients", row, size)
	}
	wantFactors(t, row, factors)
	wantGoes(t, row, factors, true)
}

// wantBad fails the test unless a list has this error wherever it is a row, or the
// coefficients for a row.
func wantBad(t *testing.T, bad []int, want api.Errno) {
	t.Helper()
	if err := Check(bad); plain.Told(err) != want {
		t.Fatalf("Check(%v) = %v, want %v", bad, err, want)
	}
	if got, err := Fewest(bad); got != 0 || plain.Told(err) != want {
		t.Fatalf("Fewest(%v) = %d, %v, want 0 and %v", bad, got, err, want)
	}
	if got, err := Factors(bad); len(got) != 0 || plain.Told(err) != want {
		t.Fatalf("Factors(%v) = %v, %v, want nothing and %v", bad, got, err, want)
	}
	for _, good := range [][]int{nil, {0}, {1, 2, 3}, sample.Numbers(most, 1), zeros(most)} {
		wantGoesError(t, bad, good, want)
		wantGoesError(t, good, bad, want)
	}
	wantGoesError(t, bad, bad, want)
}

// wantGoesError fails the test unless Goes returns nothing but this error.
func wantGoesError(t *testing.T, row, factors []int, want api.Errno) {
	t.Helper()
	if got, err := Goes(row, factors); got || plain.Told(err) != want {
		t.Fatalf("Goes(%v, %v) = %v, %v, want false and %v", row, factors, got, err, want)
	}
}

func TestUnique(t *testing.T) {
	for _, c := range []struct{ row, want []int }{
		{nil, nil},
		{[]int{}, nil},
		{[]int{0}, nil},
		{[]int{0, 0}, nil},
		{zeros(16), nil},
		{[]int{7, 0}, []int{0}},
		{[]int{7, 7}, []int{1}},
		{[]int{1, 2}, []int{2}},
		{[]int{2, 1}, []int{4_987}},
		{[]int{1, 9_972}, []int{9_972}},
		{[]int{9_972, 1}, []int{9_972}},
		{[]int{9_972, 9_972}, []int{1}},
		{[]int{1, 2, 4}, []int{2}},
		{[]int{1, 2, 4, 8}, []int{2}},
		{[]int{3, 30, 300, 3_000, 81, 810, 8_100, 1_216}, []int{10}},
		{slices.Repeat([]int{1}, 16), []int{1}},
		{slices.Repeat([]int{9_972}, 16), []int{1}},
		{slices.Repeat([]int{9_972, 1}, 8), []int{9_972}},
		// Zeros at the end say how many predecessors a term must have.
		{append([]int{5}, zeros(15)...), []int{0}},
		{append([]int{0, 5}, zeros(14)...), []int{0, 0}},
		{append([]int{5, 6}, zeros(14)...), []int{0, 0}},
		{append(zeros(7, 5), zeros(8)...), zeros(8)},
		{[]int{7, 1, 2, 4, 8}, []int{2, 0}},
		{[]int{7, 8, 1, 1, 1, 1}, []int{1, 0, 0}},
		{[]int{0, 1, 0, 0}, []int{0, 0}},
		{[]int{0, 1, 1, 1}, []int{1, 0}},
		{[]int{0, 1, 1, 2}, []int{1, 1}},
		{[]int{0, 1, 1, 2, 3}, []int{1, 1}},
		{[]int{0, 1, 1, 2, 3, 5, 8, 13, 21, 34, 55, 89, 144, 233, 377, 610}, []int{1, 1}},
		{[]int{2, 1, 3, 4, 7, 11, 18}, []int{1, 1}},
		{[]int{1, 2, 3, 4}, []int{2, 9_972}},
		{[]int{0, 1, 2, 3, 4, 5, 6, 7}, []int{2, 9_972}},
		{[]int{1, 0, 1, 0}, []int{0, 1}},
		{[]int{1, 10, 12, 32, 56}, []int{1, 2}},
		{[]int{2, 3, 23, 53, 283, 813}, []int{1, 10}},
		{[]int{2, 3, 32, 323, 3_262, 3_024}, []int{10, 1}},
		{[]int{0, 0, 1, 1, 2, 4}, []int{1, 1, 1}},
		{[]int{0, 0, 1, 0, 0, 0}, []int{0, 0, 0}},
		{[]int{0, 0, 1, 0, 0, 1, 0, 0, 1}, []int{0, 0, 1}},
		{[]int{1, 2, 3, 321, 2_213, 5_107}, []int{100, 10, 1}},
		{[]int{0, 1, 4, 9, 16, 25}, []int{3, 9_970, 1}},
		{[]int{0, 1, 8, 27, 64, 125, 216, 343}, []int{4, 9_967, 4, 9_972}},
		{[]int{1, 2, 3, 4, 1, 2, 3, 4}, []int{0, 0, 0, 1}},
		{[]int{1, 2, 3, 4, 5, 6, 7, 0, 1, 2, 3, 4, 5, 6, 7, 0}, []int{0, 0, 0, 0, 0, 0, 0, 1}},
		{[]int{1, 1, 2, 5, 14, 42, 132, 429}, []int{7, 9_958, 10, 9_972}},
	} {
		wantRight(t, c.row)
		wantFactors(t, c.row, c.want)
		wantGoes(t, c.row, c.want, true)
	}
}

func TestNotUnique(t *testing.T) {
	for _, c := range []struct {
		row  []int
		want int
	}{
		{[]int{1}, 1},
		{[]int{9_972}, 1},
		{[]int{0, 1}, 2},
		{[]int{0, 0, 1}, 3},
		{zeros(14, 1), 15},
		{zeros(15, 1), 16},
		{zeros(15, 9_972), 16},
		{[]int{0, 1, 0}, 2},
		{[]int{0, 1, 1}, 2},
		{[]int{1, 0, 1}, 2},
		{[]int{1, 1, 2}, 2},
		{[]int{0, 0, 1, 0}, 3},
		{[]int{0, 0, 1, 0, 0}, 3},
		{[]int{0, 0, 0, 1}, 4},
		{[]int{1, 0, 0, 1}, 3},
		{[]int{7, 7, 7, 8}, 3},
		{[]int{1, 2, 4, 8, 15}, 4},
		{[]int{1, 2, 4, 8, 16, 31}, 5},
		{[]int{0, 1, 1, 2, 4}, 3},
		{[]int{1, 1, 2, 5, 14, 42, 132}, 4},
		{[]int{1, 2, 3, 4, 5, 6, 7, 0, 1, 2, 3, 4, 5, 6, 7}, 8},
		{append(slices.Repeat([]int{1}, 15), 2), 15},
		{append(zeros(8, 5), zeros(7)...), 9},
		{append([]int{1}, zeros(14, 1)...), 15},
	} {
		wantRight(t, c.row)
		wantNone(t, c.row, c.want)
	}
}

func TestGoes(t *testing.T) {
	for _, c := range []struct {
		row, factors []int
		want         bool
	}{
		{nil, nil, true},
		{nil, []int{1}, true},
		{nil, sample.Numbers(16, 1), true},
		{[]int{0}, nil, true},
		{[]int{1}, nil, false},
		{[]int{9_972}, nil, false},
		{[]int{0, 0, 0}, nil, true},
		{[]int{0, 0, 1}, nil, false},
		{[]int{1, 0, 0}, nil, false},
		{[]int{1}, []int{0}, true},
		{[]int{1}, []int{7}, true},
		{[]int{1, 2}, []int{1}, false},
		{[]int{1, 2}, []int{2}, true},
		{[]int{1, 2}, []int{2, 3}, true},
		{[]int{1, 2, 4, 8}, []int{2}, true},
		{[]int{1, 2, 4, 9}, []int{2}, false},
		{[]int{1, 2, 5, 10}, []int{2}, false},
		{[]int{5, 0}, []int{0}, true},
		{[]int{5, 0, 1}, []int{0}, false},
		{[]int{0, 1, 1, 2, 3}, []int{1, 1}, true},
		{[]int{0, 1, 1, 2, 4}, []int{1, 1}, false},
		{[]int{0, 1, 1, 2, 3}, []int{1}, false},
		{[]int{0, 1, 1, 2, 3}, []int{1, 1, 0}, true},
		{[]int{0, 1, 1, 2, 3}, []int{2, 0, 9_972}, true},
		{[]int{0, 1, 1, 2, 3}, []int{1, 1, 1}, false},
		{[]int{0, 1, 1, 2, 3}, []int{1, 1, 5, 0}, false},
		{[]int{0, 1, 1, 2, 3}, []int{1, 1, 0, 7}, true},
		{[]int{0, 1, 1, 2, 3}, []int{1, 1, 0, 0, 7}, true},
		{[]int{0, 1, 1, 2, 3}, []int{7, 7, 7, 7, 7}, true},
		{[]int{0, 1, 1, 2, 3}, zeros(16), true},
		{[]int{7, 1, 2, 4, 8}, []int{2}, false},
		{[]int{7, 1, 2, 4, 8}, []int{2, 0}, true},
		{[]int{7, 1, 2, 4, 8}, []int{2, 1}, false},
		{[]int{2, 3, 23, 53}, []int{1, 10}, true},
		{[]int{2, 3, 23, 53}, []int{10, 1}, false},
		{[]int{1, 2, 3, 321, 2_213, 5_107}, []int{100, 10, 1}, true},
		{[]int{1, 2, 3, 321, 2_213, 5_107}, []int{1, 10, 100}, false},
		{[]int{1, 2, 3, 321, 2_213, 5_108}, []int{100, 10, 1}, false},
		{[]int{9_972, 1, 9_972, 1}, []int{9_972}, true},
		{slices.Repeat([]int{9_972}, 16), []int{1}, true},
		{slices.Repeat([]int{9_972}, 8), slices.Repeat([]int{9_972}, 7), false},
		{append(slices.Repeat([]int{9_972}, 7), 7), slices.Repeat([]int{9_972}, 7), true},
		{append(slices.Repeat([]int{9_972}, 15), 15), slices.Repeat([]int{9_972}, 15), true},
		{append(slices.Repeat([]int{9_972}, 15), 14), slices.Repeat([]int{9_972}, 15), false},
		{sample.Numbers(16, 1), sample.Numbers(16, 2), true},
		{sample.Numbers(16, 1), sample.Numbers(15, 2), false},
	} {
		wantGoes(t, c.row, c.factors, c.want)
	}
}

// TestOneTerm has one term that is not 0, at all places of rows of all lengths.
func TestOneTerm(t *testing.T) {
	for length := 1; length <= most; length++ {
		for i := range length {
			for _, n := range []int{1, 2, 4_987, 9_972} {
				row := sample.With(1, length, 0, i, n)[0]
				if 2*(i+1) > length {
					wantNone(t, row, i+1)
				} else {
					wantFactors(t, row, zeros(i+1))
				}
				for size := range most + 1 {
					wantGoes(t, row, zeros(size), size > i)
				}
			}
		}
	}
}

// TestLastTerm has rows that go on by few coefficients up to their last term. That
// one then needs as many more as the length of the row allows.
func TestLastTerm(t *testing.T) {
	for size := range 8 {
		for seed := range 5 {
			factors, start := sample.Numbers(size, seed), sample.Numbers(size, seed+100)
			for length := 2*size + 1; length <= most; length++ {
				row := goOn(start, factors, length)
				wantFactors(t, row, factors)
				for _, n := range []int{1, 2, 4_987, 9_972} {
					row[length-1] = sample.Element(row[length-1] + n)
					wantNone(t, row, length-size)
					wantGoes(t, row, factors, false)
				}
			}
		}
	}
}

// TestFewElements has all short rows of few different elements.
func TestFewElements(t *testing.T) {
	for _, c := range []struct {
		longest  int
		elements []int
	}{
		{3, []int{0, 1, 2, 3, 4_986, 4_987, 9_971, 9_972}},
		{5, []int{0, 1, 2, 9_972}},
		{7, []int{0, 1, 9_972}},
		{7, []int{0, 1, 2}},
		{10, []int{0, 1}},
		{10, []int{1, 2}},
	} {
		for length := range c.longest + 1 {
			for m := range sample.All(1, length, c.elements...) {
				wantRight(t, m[0])
			}
		}
	}
}

// TestAllLengths has numbers that follow no plain rule, and few different ones.
func TestAllLengths(t *testing.T) {
	for length := range most + 1 {
		for seed := range 30 {
			row := sample.Numbers(length, seed)
			wantRight(t, row)
			for at := range row {
				row[at] = 0
				wantRight(t, row)
			}
			for below := 1; below <= 4; below++ {
				wantRight(t, few(length, below, seed))
			}
		}
	}
}

// TestGoOn has rows that go on by all numbers of coefficients, from which they are
// found again as soon as the row is long enough.
func TestGoOn(t *testing.T) {
	for size := range most + 1 {
		for seed := range 30 {
			factors, start := sample.Numbers(size, seed), sample.Numbers(size, seed+100)
			for length := range most + 1 {
				row := goOn(start, factors, length)
				wantGoes(t, row, factors, true)
				wantRight(t, row)
				if 2*size <= length {
					wantFactors(t, row, factors)
				}
			}
			// With few elements there may be fewer coefficients than these.
			for below := 2; below <= 4; below++ {
				row := goOn(few(size, below, seed), few(size, below, seed+100), most)
				wantGoes(t, row, few(size, below, seed+100), true)
				wantRight(t, row)
			}
		}
	}
}

// TestJoined has rows that go on by some coefficients, and then by others.
func TestJoined(t *testing.T) {
	for first := range 5 {
		for second := range 6 {
			for from := first + second; from < most; from++ {
				for seed := range 4 {
					row := goOn(sample.Numbers(first, seed), sample.Numbers(first, seed+100), from)
					row = goOn(row, few(second, 3, seed+200), most)
					wantRight(t, row)
				}
			}
		}
	}
}

// TestPowers has sums of the powers of different numbers, each times some number
// of its own, which are as many as the coefficients that generate them.
func TestPowers(t *testing.T) {
	for size := range 9 {
		for seed := range 20 {
			roots := sample.Numbers(size, seed)
			for k := range roots {
				// Different remainders make different roots.
				roots[k] = 1 + k + roots[k]/10*10%9_900
			}
			times := few(size, 9_972, seed+100)
			row := make([]int, most)
			for at := range row {
				for k, x := range roots {
					row[at] = (row[at] + (1+times[k])*sample.Power(x, at)) % 9_973
				}
			}
			for length := 2 * size; length <= most; length++ {
				wantFactors(t, row[:length], sample.FactorsOf(roots))
			}
		}
	}
}

// TestPolynomials has the values of polynomials, which are generated by one
// coefficient more than the degree: those of the powers of 1, as if 1 were a root
// as many times.
func TestPolynomials(t *testing.T) {
	for degree := range 8 {
		for seed := range 20 {
			f := sample.Numbers(degree+1, seed)
			f[degree] = 1 + f[degree]%9_972
			row := make([]int, most)
			for at := range row {
				for k, n := range f {
					row[at] = (row[at] + n*sample.Power(at, k)) % 9_973
				}
			}
			for length := 2 * (degree + 1); length <= most; length++ {
				wantFactors(t, row[:length], sample.FactorsOf(slices.Repeat([]int{1}, degree+1)))
			}
		}
	}
}

// TestAllElements has all elements as terms, as coefficients, and as what is
// missing somewhere.
func TestAllElements(t *testing.T) {
	for n := range 9_973 {
		square := n * n % 9_973
		wantFactors(t, []int{1, n}, []int{n})
		wantFactors(t, []int{1, n, square}, []int{n})
		wantFactors(t, []int{0, 1, n, square}, []int{n, 0})
		wantFactors(t, []int{0, 1, 1, (1 + n) % 9_973}, []int{1, n})
		wantGoes(t, []int{1, n, square}, []int{n}, true)
		wantGoes(t, []int{n, square}, []int{n}, true)
		wantGoes(t, []int{1, n}, []int{sample.Element(n + 1)}, false)
		wantGoes(t, []int{n}, nil, n == 0)
		if n == 0 {
			continue
		}
		wantNone(t, []int{n}, 1)
		wantFactors(t, []int{n, 1}, []int{inverse(n)})
		wantFactors(t, []int{n, square}, []int{n})
		wantFactors(t, []int{0, n, 1, inverse(n)}, []int{inverse(n), 0})
		wantFactors(t, []int{1, 1, sample.Element(n + 1), 1}, []int{9_972, sample.Element(n + 2)})
		wantNone(t, []int{1, 1, 1, sample.Element(n + 1)}, 3)
	}
}

// TestOneByOne takes the terms of rows one by one. The first coefficients stay as
// long as they generate the next term, and otherwise there are as many as the
// length then allows, if they were fewer.
func TestOneByOne(t *testing.T) {
	for seed := range 200 {
		row := few(most, 2+seed%5, seed)
		size := 0
		for length := range most + 1 {
			got, err := Fewest(row[:length])
			if err != nil || got != size && got != max(size, length-size) {
				t.Fatalf("Fewest(%v) = %d, %v after %d", row[:length], got, err, size)
			}
			factors, err := Factors(row[:length])
			if (err == nil) != (2*got <= length) {
				t.Fatalf("Factors(%v) = %v, %v", row[:length], factors, err)
			}
			if err == nil && length < most {
				next := length + 1
				same, err := Fewest(row[:next])
				if err != nil || (same == got) != (generate(row[:next], factors) || 2*got == next) {
					t.Fatalf("Fewest(%v) = %d, %v after %v", row[:next], same, err, factors)
				}
			}
			size = got
		}
	}
}

// TestTimes has rows times a number, which are generated by the same coefficients,
// and rows backwards, which are so by as many if the last one is not 0.
func TestTimes(t *testing.T) {
	for size := 1; size <= 8; size++ {
		for seed := range 20 {
			factors, start := few(size, 9_972, seed), sample.Numbers(size, seed+100)
			factors[size-1]++
			row := goOn(start, factors, most)
			wantFactors(t, row, factors)
			for _, times := range []int{2, 4_987, 9_972} {
				var l []int
				for _, n := range row {
					l = append(l, n*times%9_973)
				}
				wantFactors(t, l, factors)
				wantGoes(t, l, factors, true)
			}
			// The first term is that behind it minus the others, over the last
			// coefficient.
			slices.Reverse(row)
			over := inverse(factors[size-1])
			var back []int
			for i := range size - 1 {
				back = append(back, sample.Element(-factors[size-2-i]*over))
			}
			wantFactors(t, row, append(back, over))
		}
	}
}

// TestChanges changes one term of a row, or one of the only coefficients, by a
// number, after which the coefficients no longer generate the row.
func TestChanges(t *testing.T) {
	for size := range 8 {
		for length := 2*size + 1; length <= most; length++ {
			factors, start := few(size, 9_972, length), sample.Numbers(size, length+100)
			for i := range factors {
				factors[i]++
			}
			row := goOn(start, factors, length)
			for _, n := range []int{1, 100, 9_972} {
				for at := range row {
					changed := slices.Clone(row)
					changed[at] = (changed[at] + n) % 9_973
					wantGoes(t, changed, factors, false)
				}
				for i := range factors {
					changed := slices.Clone(factors)
					changed[i] = (changed[i] + n) % 9_973
					wantGoes(t, row, changed, false)
				}
			}
		}
	}
}

// TestAllGoes has all short rows and coefficients of few different elements, and
// then some of all lengths.
func TestAllGoes(t *testing.T) {
	for length := range 6 {
		for size := range 5 {
			for row := range sample.All(1, length, 0, 1, 9_972) {
				for factors := range sample.All(1, size, 0, 1, 9_972) {
					wantGoes(t, row[0], factors[0], generate(row[0], factors[0]))
				}
			}
		}
	}
	for length := range most + 1 {
		for size := range most + 1 {
			for seed := range 5 {
				for below := 1; below <= 3; below++ {
					row, factors := few(length, below, seed), few(size, below, seed+100)
					wantGoes(t, row, factors, generate(row, factors))
				}
				wantGoes(t, sample.Numbers(length, seed), sample.Numbers(size, seed+100), length <= size)
			}
		}
	}
}

// TestTooMany has too many terms or coefficients. That comes before what they are.
func TestTooMany(t *testing.T) {
	for _, length := range []int{17, 18, 19, 20, 31, 32, 33, 100, 1_000} {
		for _, n := range []int{0, 1, 9_972, 9_973, -1, math.MinInt, math.MaxInt} {
			bad := slices.Repeat([]int{n}, length)
			wantBad(t, bad, api.ErrFull)
		}
		for i := range 17 {
			for _, n := range sample.Outside() {
				wantBad(t, sample.With(1, length, 0, i, n)[0], api.ErrFull)
			}
		}
	}
	// Spare capacity does not count.
	long := sample.Numbers(17, 1)
	wantRight(t, long[:16])
	wantRight(t, long[1:])
	wantGoes(t, long[:1], long[:16], true)
}

// TestRange has a number that is no element at each place.
func TestRange(t *testing.T) {
	for length := 1; length <= most; length++ {
		for _, n := range sample.Outside() {
			for i := range length {
				wantBad(t, sample.With(1, length, 0, i, n)[0], api.ErrRange)
				bad := sample.Numbers(length, i)
				bad[i] = n
				wantBad(t, bad, api.ErrRange)
			}
			wantBad(t, slices.Repeat([]int{n}, length), api.ErrRange)
		}
	}
}

// TestFirstError has rows and coefficients that are both bad, of which the row
// decides.
func TestFirstError(t *testing.T) {
	full, outside := zeros(17), []int{9_973}
	both := zeros(16, -1)
	for _, c := range []struct {
		row, factors []int
		want         api.Errno
	}{
		{full, outside, api.ErrFull},
		{outside, full, api.ErrRange},
		{both, outside, api.ErrFull},
		{outside, both, api.ErrRange},
		{zeros(15, -1), full, api.ErrRange},
		{full, full, api.ErrFull},
		{outside, outside, api.ErrRange},
		// The row decides nothing before the coefficients are looked at.
		{[]int{1, 2}, full, api.ErrFull},
		{[]int{1, 2}, outside, api.ErrRange},
		{[]int{1}, []int{0, -1}, api.ErrRange},
		{nil, full, api.ErrFull},
		{nil, outside, api.ErrRange},
		{full, nil, api.ErrFull},
		{outside, nil, api.ErrRange},
	} {
		wantGoesError(t, c.row, c.factors, c.want)
	}
	// A row that is none has no unique coefficients either, which comes later.
	wantBad(t, []int{0, 0, 9_973}, api.ErrRange)
	wantBad(t, zeros(16, 1), api.ErrFull)
}

// TestLimits has as many terms and coefficients as there may be, and elements on
// both sides of their limits.
func TestLimits(t *testing.T) {
	for length := range most + 1 {
		for _, n := range []int{0, 1, 9_971, 9_972} {
			l := slices.Repeat([]int{n}, length)
			if err := Check(l); err != nil {
				t.Fatalf("Check(%v) = %v", l, err)
			}
			for size := range most + 1 {
				factors := slices.Repeat([]int{n}, size)
				wantGoes(t, l, factors, generate(l, factors))
			}
		}
	}
}

// checkArguments calls all functions again and again, and checks that arguments
// stay as they are, with their spare capacity, and that coefficients do so whatever
// is done to other ones and to the arguments.
func checkArguments(t *testing.T, row, factors []int) {
	t.Helper()
	l := sample.Spacious([][]int{row, factors})
	before := sample.Whole(l)
	first, firstErr := Factors(l[0])
	want := slices.Clone(first)
	size, sizeErr := Fewest(l[0])
	goes, goesErr := Goes(l[0], l[1])
	for range 2 {
		next, err := Factors(l[0])
		if !slices.Equal(next, want) || plain.Told(err) != plain.Told(firstErr) {
			t.Fatalf("of %v, the coefficients are first %v, %v and later %v, %v", before, want, firstErr, next, err)
		}
		if got, err := Fewest(l[0]); got != size || plain.Told(err) != plain.Told(sizeErr) {
			t.Fatalf("of %v, Fewest is first %d, %v and later %d, %v", before, size, sizeErr, got, err)
		}
		if got, err := Goes(l[0], l[1]); got != goes || plain.Told(err) != plain.Told(goesErr) {
			t.Fatalf("of %v, Goes is first %v, %v and later %v, %v", before, goes, goesErr, got, err)
		}
		if err := Check(l[0]); plain.Told(err) != plain.Told(sizeErr) {
			t.Fatalf("of %v, Check is %v", before, err)
		}
		sample.Spoil([][]int{next})
		if !slices.Equal(first, want) {
			t.Fatalf("of %v, two lists of coefficients share memory", before)
		}
	}
	if !sample.Same(sample.Whole(l), before) {
		t.Fatalf("arguments %v became %v", before, sample.Whole(l))
	}
	sample.Spoil(l)
	if !slices.Equal(first, want) {
		t.Fatalf("of %v, the coefficients share memory with the arguments", before)
	}
}

func TestArguments(t *testing.T) {
	for length := range most + 2 {
		for _, row := range [][]int{
			sample.Numbers(length, 1), zeros(length), slices.Repeat([]int{1}, length), slices.Repeat([]int{-1}, length),
			slices.Repeat([]int{9_973}, length), goOn(sample.Numbers(3, 1), sample.Numbers(3, 2), length),
		} {
			for size := range most + 2 {
				checkArguments(t, row, sample.Numbers(size, 2))
				checkArguments(t, row, slices.Repeat([]int{-1}, size))
			}
		}
	}
}

// TestSharedArguments has rows and coefficients that are the same memory, or
// overlap.
func TestSharedArguments(t *testing.T) {
	line := few(most, 3, 1)
	before := slices.Clone(line)
	for range 2 {
		for from := range line {
			for to := from; to <= len(line); to++ {
				wantRight(t, line[from:to])
				wantGoes(t, line, line[from:to], generate(line, line[from:to]))
				wantGoes(t, line[from:to], line[from:to], true)
				wantGoes(t, line[from:to], line[:from], generate(line[from:to], line[:from]))
			}
		}
		if !slices.Equal(line, before) {
			t.Fatalf("%v became %v", before, line)
		}
	}
}
