package smith

import (
	"math"
	"slices"
	"testing"

	"rankmere/api"
	"rankmere/plain"
	"rankmere/sample"
)

// mostSide is how many rows there may be.
const mostSide = 3

// kind returns what the chapter says of its matrices.
func kind() sample.Kind {
	return sample.Kind{Side: mostSide, Least: -20, Most: 20}
}

// plainGcd returns the greatest common divisor of two numbers.
func plainGcd(a, b int) int {
	if b == 0 {
		return max(a, -a)
	}
	return plainGcd(b, a%b)
}

// product returns the product of numbers.
func product(numbers []int) int {
	p := 1
	for _, n := range numbers {
		p *= n
	}
	return p
}

// divisors returns for each size the greatest common divisor of all minors of m.
func divisors(m [][]int) []int {
	l := make([]int, len(m))
	for k := range l {
		for _, rows := range sample.Subsets(len(m), k+1) {
			for _, columns := range sample.Subsets(len(m), k+1) {
				l[k] = plainGcd(l[k], sample.IntDet(sample.Part(m, rows, columns)))
			}
		}
	}
	return l
}

// eliminated returns the invariant factors of m, whose determinant is not 0, by
// operations on rows and columns instead of minors.
func eliminated(m [][]int) []int {
	m = sample.Clone(m)
	var l []int
	for len(m) > 0 {
		for !cleared(m) {
			moveLeast(m)
			reduceRows(m)
			m = sample.Turned(m)
			reduceRows(m)
		}
		l = append(l, max(m[0][0], -m[0][0]))
		m = sample.Without(m, 0, 0)
	}
	return l
}

// cleared tells whether the first element divides all other ones, and those of its
// row and column are 0. If only a later row is left over, it adds that to the
// first one.
func cleared(m [][]int) bool {
	first := m[0][0]
	if first == 0 {
		return false
	}
	for k := 1; k < len(m); k++ {
		if m[0][k] != 0 || m[k][0] != 0 {
			return false
		}
	}
	for _, row := range m[1:] {
		if slices.ContainsFunc(row, func(n int) bool { return n%first != 0 }) {
			m[0] = sample.IntMul([][]int{{1, 1}}, [][]int{m[0], row})[0]
			return false
		}
	}
	return true
}

// moveLeast moves an element to the first place, by exchanges of rows and columns.
// None but those that are 0 is nearer to 0.
func moveLeast(m [][]int) {
	size, atRow, atColumn := math.MaxInt, 0, 0
	for i, row := range m {
		for j, n := range row {
			if n = max(n, -n); n > 0 && n < size {
				size, atRow, atColumn = n, i, j
			}
		}
	}
	m[0], m[atRow] = m[atRow], m[0]
	for _, row := range m {
		row[0], row[atColumn] = row[atColumn], row[0]
	}
}

// reduceRows subtracts multiples of the first row from the others.
func reduceRows(m [][]int) {
	for i := 1; i < len(m); i++ {
		times := m[i][0] / m[0][0]
		m[i] = sample.IntMul([][]int{{1, -times}}, [][]int{m[i], m[0]})[0]
	}
}

// ofDiagonal returns the invariant factors of a diagonal matrix: the powers of each
// prime number that divide its elements, in increasing order.
func ofDiagonal(numbers []int) []int {
	l := slices.Repeat([]int{1}, len(numbers))
	for _, prime := range []int{2, 3, 5, 7, 11, 13, 17, 19} {
		var powers []int
		for _, n := range numbers {
			power := 1
			for n%(power*prime) == 0 {
				power *= prime
			}
			powers = append(powers, power)
		}
		slices.Sort(powers)
		for k, power := range powers {
			l[k] *= power
		}
	}
	return l
}

// diagonal returns the matrix that has these numbers on its diagonal.
func diagonal(numbers []int) [][]int {
	m := sample.Filled(len(numbers), len(numbers), 0)
	for i, n := range numbers {
		m[i][i] = n
	}
	return m
}

// chains returns all lists of positive numbers up to most each of which divides the
// next one.
func chains(length, most int) [][]int {
	if length == 0 {
		return [][]int{nil}
	}
	var l [][]int
	for _, chain := range chains(length-1, most) {
		step := product(chain[max(0, length-2):])
		for n := step; n <= most; n += step {
			l = append(l, append(slices.Clone(chain), n))
		}
	}
	return l
}

// changed returns matrices that have the same invariant factors as m, by moves of
// the rows, and then of the columns.
func changed(m [][]int, seed int) [][][]int {
	var l [][][]int
	for i, rows := range kind().Moves(m, seed) {
		l = append(l, rows, sample.Turned(rows), kind().Moved(sample.Turned(rows), seed+i))
	}
	return l
}

// wantParts fails the test unless Parts returns these numbers, Index their product,
// and both no error.
func wantParts(t *testing.T, m [][]int, want []int) {
	t.Helper()
	if got, err := Parts(m); !slices.Equal(got, want) || err != nil {
		t.Fatalf("Parts(%v) = %v, %v, want %v", m, got, err, want)
	}
	if got, err := Index(m); got != product(want) || err != nil {
		t.Fatalf("Index(%v) = %d, %v, want %d", m, got, err, product(want))
	}
}

// wantDefined fails the test unless Parts and Index return what the chapter says:
// positive numbers each of which divides the next one, the first of which together
// are the greatest common divisor of the minors. If the determinant of m is 0, both
// functions should have the error for that.
func wantDefined(t *testing.T, m [][]int) {
	t.Helper()
	det := sample.IntDet(m)
	if det == 0 {
		wantBad(t, m, api.ErrClash)
		return
	}
	got, err := Parts(m)
	if len(got) != len(m) || err != nil {
		t.Fatalf("Parts(%v) = %v, %v", m, got, err)
	}
	for k, want := range divisors(m) {
		if got[k] <= 0 || k > 0 && got[k]%got[k-1] != 0 || product(got[:k+1]) != want {
			t.Fatalf("Parts(%v) = %v, and the divisors of the minors are %v", m, got, divisors(m))
		}
	}
	if got, err := Index(m); got != max(det, -det) || err != nil {
		t.Fatalf("Index(%v) = %d, %v, and the determinant is %d", m, got, err, det)
	}
}

// wantBad fails the test unless both functions return nothing but this error.
func wantBad(t *testing.T, m [][]int, want api.Errno) {
	t.Helper()
	if got, err := Parts(m); len(got) != 0 || plain.Told(err) != want {
		t.Fatalf("Parts(%v) = %v, %v, want nothing and %v", m, got, err, want)
	}
	if got, err := Index(m); got != 0 || plain.Told(err) != want {
		t.Fatalf("Index(%v) = %d, %v, want 0 and %v", m, got, err, want)
	}
}

func TestParts(t *testing.T) {
	for _, c := range []struct {
		m    [][]int
		want []int
	}{
		{[][]int{{4}}, []int{4}},
		{[][]int{{-4}}, []int{4}},
		{[][]int{{2, 0}, {0, 3}}, []int{1, 6}},
		{[][]int{{2, 0}, {0, 2}}, []int{2, 2}},
		{[][]int{{2, 0}, {0, 4}}, []int{2, 4}},
		{[][]int{{4, 0}, {0, 2}}, []int{2, 4}},
		{[][]int{{4, 0}, {0, 6}}, []int{2, 12}},
		{[][]int{{0, -4}, {6, 0}}, []int{2, 12}},
		{[][]int{{-4, 0}, {0, -6}}, []int{2, 12}},
		{[][]int{{2, 4}, {6, 8}}, []int{2, 4}},
		{[][]int{{1, 2}, {3, 4}}, []int{1, 2}},
		{[][]int{{4, 2}, {2, 4}}, []int{2, 6}},
		{[][]int{{20, 19}, {19, 18}}, []int{1, 1}},
		{[][]int{{20, -20}, {20, 20}}, []int{20, 40}},
		// The first element is no multiple of the first factor alone.
		{[][]int{{6, 10}, {15, 0}}, []int{1, 150}},
		{[][]int{{12, 6}, {6, 12}}, []int{6, 18}},
		{[][]int{{1, 0, 0}, {0, 1, 0}, {0, 0, 1}}, []int{1, 1, 1}},
		{[][]int{{2, 4, 4}, {-6, 6, 12}, {10, -4, -16}}, []int{2, 6, 12}},
		{[][]int{{6, 0, 0}, {0, 10, 0}, {0, 0, 15}}, []int{1, 30, 30}},
		{[][]int{{0, 0, 12}, {0, 18, 0}, {20, 0, 0}}, []int{2, 12, 180}},
		{[][]int{{4, 0, 0}, {0, 2, 0}, {0, 0, 3}}, []int{1, 2, 12}},
		{[][]int{{1, 2, 3}, {4, 5, 6}, {7, 8, 10}}, []int{1, 1, 3}},
		{[][]int{{2, 1, 1}, {1, 2, 1}, {1, 1, 2}}, []int{1, 1, 4}},
		{[][]int{{1, 1, -1}, {-1, 1, 1}, {1, -1, 1}}, []int{1, 2, 2}},
		{[][]int{{2, 0, 0}, {1, 2, 0}, {1, 1, 2}}, []int{1, 1, 8}},
		{[][]int{{2, 2, 0}, {0, 2, 2}, {0, 0, 2}}, []int{2, 2, 2}},
		{[][]int{{3, 0, 0}, {0, 3, 0}, {0, 0, 5}}, []int{1, 3, 15}},
	} {
		wantParts(t, c.m, c.want)
		wantDefined(t, c.m)
		for _, m := range changed(c.m, 1) {
			wantParts(t, m, c.want)
		}
		if got := eliminated(c.m); !slices.Equal(got, c.want) {
			t.Fatalf("of %v, elimination leaves %v, want %v", c.m, got, c.want)
		}
	}
}

// TestOneRow has all matrices of one row.
func TestOneRow(t *testing.T) {
	wantBad(t, [][]int{{0}}, api.ErrClash)
	for n := 1; n <= 20; n++ {
		wantParts(t, [][]int{{n}}, []int{n})
		wantParts(t, [][]int{{-n}}, []int{n})
	}
}

// TestDiagonal has zeros everywhere but in one place of each row and column.
func TestDiagonal(t *testing.T) {
	for n := 1; n <= mostSide; n++ {
		for numbers := range sample.All(1, n, -20, -18, -7, -1, 1, 4, 6, 10, 15, 19) {
			want := ofDiagonal(numbers[0])
			for _, m := range sample.Orders(diagonal(numbers[0])) {
				wantParts(t, m, want)
			}
		}
	}
}

// TestChains has all invariant factors of a diagonal, whose rows and columns are
// moved.
func TestChains(t *testing.T) {
	for n := 1; n <= mostSide; n++ {
		for seed, chain := range chains(n, 20) {
			m := diagonal(chain)
			wantParts(t, m, chain)
			for _, other := range changed(m, seed) {
				wantParts(t, other, chain)
			}
		}
	}
}

// TestFewElements has all matrices of few different elements.
func TestFewElements(t *testing.T) {
	for _, c := range []struct {
		size     int
		elements []int
	}{
		{2, []int{-20, -15, -9, -4, -2, -1, 0, 1, 3, 6, 10, 14, 19, 20}},
		{3, []int{-1, 0, 1}},
		{3, []int{0, 2, 3}},
		{3, []int{-20, 0, 8}},
		{3, []int{6, 10, 15}},
		{3, []int{-20, 19, 20}},
	} {
		for m := range sample.All(c.size, c.size, c.elements...) {
			wantDefined(t, m)
		}
	}
}

// TestAllSizes has elements that follow no plain rule, also with common divisors.
func TestAllSizes(t *testing.T) {
	for n := 1; n <= mostSide; n++ {
		for seed := range 1_000 {
			wantDefined(t, kind().Mixed(n, n, seed))
			for by := 1; by <= 10; by++ {
				m := sample.Kind{Side: n, Least: -20 / by, Most: 20 / by}.Mixed(n, n, seed)
				m[seed%n] = sample.Multiple(m[seed%n], by)
				wantDefined(t, m)
				wantDefined(t, sample.Turned(m))
			}
		}
	}
}

// TestAllElements has all elements at all places.
func TestAllElements(t *testing.T) {
	for n := 1; n <= mostSide; n++ {
		for i := range n {
			for j := range n {
				for k := -20; k <= 20; k++ {
					for seed := range 5 {
						m := kind().Mixed(n, n, seed)
						m[i][j] = k
						wantDefined(t, m)
					}
					m := sample.Unit(n)
					m[i][j] = k
					wantDefined(t, m)
				}
			}
		}
	}
}

// TestElimination compares with the diagonal that operations on rows and columns
// leave.
func TestElimination(t *testing.T) {
	for n := 1; n <= mostSide; n++ {
		for seed := range 1_000 {
			m := kind().Regular(n, seed)
			wantParts(t, m, eliminated(m))
			m = sample.Kind{Side: n, Least: -3, Most: 3}.Regular(n, seed)
			for i := range m {
				m[i] = sample.Multiple(m[i], 1+(seed>>i)%6)
			}
			wantParts(t, m, eliminated(m))
		}
	}
}

// TestMultiples multiplies matrices by numbers, and so each of the factors.
func TestMultiples(t *testing.T) {
	for n := 1; n <= mostSide; n++ {
		for by := 1; by <= 20; by++ {
			for seed := range 100 {
				m := sample.Kind{Side: n, Least: -20 / by, Most: 20 / by}.Regular(n, seed)
				want, err := Parts(m)
				if err != nil {
					t.Fatalf("Parts(%v) has error %v", m, err)
				}
				for _, number := range []int{by, -by} {
					l := make([][]int, n)
					for i, row := range m {
						l[i] = sample.Multiple(row, number)
					}
					wantParts(t, l, sample.Multiple(want, by))
				}
			}
		}
	}
}

// TestSolutions counts the numbers x modulo some number for which m*x is 0. A
// factor and the number have their greatest common divisor of solutions together.
func TestSolutions(t *testing.T) {
	for n := 1; n <= mostSide; n++ {
		for seed := range 60 {
			m := sample.Kind{Side: n, Least: -6, Most: 6}.Regular(n, seed)
			if seed%2 == 0 {
				chain := chains(n, 8)
				m = kind().Moved(diagonal(chain[seed*13%len(chain)]), seed)
			}
			parts, err := Parts(m)
			if err != nil {
				t.Fatalf("Parts(%v) has error %v", m, err)
			}
			for modulo := 2; modulo <= 9; modulo++ {
				want, got := 1, 0
				for _, part := range parts {
					want *= plainGcd(part, modulo)
				}
				for x := range sample.All(n, 1, sample.UpTo(modulo)...) {
					values := slices.Concat(sample.IntMul(m, x)...)
					if !slices.ContainsFunc(values, func(v int) bool { return v%modulo != 0 }) {
						got++
					}
				}
				if got != want {
					t.Fatalf("Parts(%v) = %v, but there are %d solutions modulo %d", m, parts, got, modulo)
				}
			}
		}
	}
}

// TestIndex counts the points of row lattices. In a cube whose side is the index,
// or a multiple of it, one point of so many is in the lattice.
func TestIndex(t *testing.T) {
	for n := 1; n <= mostSide; n++ {
		most := []int{20, 15, 8}[n-1]
		for seed := range 200 {
			m := sample.Kind{Side: n, Least: -3, Most: 3}.Regular(n, seed)
			index, err := Index(m)
			if index <= 0 || err != nil {
				t.Fatalf("Index(%v) = %d, %v", m, index, err)
			}
			if index > most {
				continue
			}
			points, inside := 0, 0
			for x := range sample.All(1, n, sample.UpTo(index)...) {
				points++
				if sample.InLattice(m, x[0]) {
					inside++
				}
			}
			if points != inside*index {
				t.Fatalf("Index(%v) = %d, but %d of %d points are in the lattice", m, index, inside, points)
			}
		}
	}
}

// TestProducts multiplies matrices, and so the indices of their lattices.
func TestProducts(t *testing.T) {
	small := sample.Kind{Side: mostSide, Least: -2, Most: 2}
	for n := 1; n <= mostSide; n++ {
		for seed := range 200 {
			a, b := small.Regular(n, seed), small.Regular(n, seed+200)
			first, _ := Index(a)
			second, _ := Index(b)
			ab := sample.IntMul(a, b)
			if got, err := Index(ab); got != first*second || err != nil {
				t.Fatalf("Index(%v) = %d, %v, want %d", ab, got, err, first*second)
			}
			wantDefined(t, ab)
		}
	}
}

// TestLargest has the largest indices that there are.
func TestLargest(t *testing.T) {
	m := [][]int{{20, 20, -20}, {-20, 20, 20}, {20, -20, 20}}
	for _, ordered := range sample.Orders(m) {
		wantParts(t, ordered, []int{20, 40, 40})
		wantParts(t, sample.Turned(ordered), []int{20, 40, 40})
	}
	wantParts(t, [][]int{{20, 20, -20}, {-20, 20, 20}, {20, -20, 19}}, []int{1, 20, 1_560})
	for m := range sample.All(3, 3, -20, 20) {
		wantDefined(t, m)
	}
	for m := range sample.All(2, 2, -20, -19, -18, -17, 17, 18, 19, 20) {
		wantDefined(t, m)
	}
	for seed := range 1_000 {
		m := sample.Kind{Side: 3, Least: 16, Most: 20}.Mixed(3, 3, seed)
		for i, row := range (sample.Kind{Side: 3, Least: 0, Most: 1}).Mixed(3, 3, seed) {
			for j, n := range row {
				m[i][j] *= 1 - 2*n
			}
		}
		wantDefined(t, m)
	}
}

// TestMultiplesOfPrime has determinants that are multiples of Prime, but not 0.
func TestMultiplesOfPrime(t *testing.T) {
	for _, m := range [][][]int{
		{{18, -1, 18}, {-7, -17, 20}, {-19, 19, -15}}, {{-19, 20, -18}, {-3, 19, -17}, {-9, -17, -18}},
		{{19, -20, -7}, {18, 18, 20}, {4, -18, 17}}, {{-19, -18, -19}, {-19, -17, 17}, {17, -14, -17}},
		{{20, 20, -19}, {-19, -7, -20}, {-20, 19, 20}}, {{20, 20, 19}, {19, -20, -7}, {-20, -19, 20}},
	} {
		if det := sample.IntDet(m); det == 0 || det%9_973 != 0 {
			t.Fatalf("the determinant of %v is %d", m, det)
		}
		wantDefined(t, m)
	}
}

// TestBad has all lists that are no matrices.
func TestBad(t *testing.T) {
	for m, want := range kind().Bad() {
		wantBad(t, m, want)
	}
}

// TestNotSquare has matrices with more rows than columns and the other way round,
// also with dependent rows.
func TestNotSquare(t *testing.T) {
	for m, want := range kind().NotSquare() {
		wantBad(t, m, want)
	}
	wantBad(t, sample.Filled(1, 4, 0), api.ErrFull)
	wantBad(t, sample.Filled(4, 3, 0), api.ErrFull)
	wantBad(t, sample.Filled(2, 0, 0), api.ErrNone)
	// As many elements as a square matrix has do not help.
	wantBad(t, [][]int{{1, 2, 3}, {4}}, api.ErrShape)
	wantBad(t, [][]int{{1, 2}, {3, 4}, nil}, api.ErrShape)
	wantBad(t, [][]int{{1, 2}, {3, 4}, {21, 5}}, api.ErrRange)
	wantBad(t, [][]int{{1, 2}, {3, 4}, {5, -21}}, api.ErrRange)
}

// TestClash has determinants that are 0. An element that may not be comes before
// that, and so does the number of rows and elements.
func TestClash(t *testing.T) {
	for m := range kind().Singular() {
		wantBad(t, m, api.ErrClash)
		last := len(m) - 1
		m[last][last] = -21
		wantBad(t, m, api.ErrRange)
		if m[last] = m[last][:last]; last > 0 {
			wantBad(t, m, api.ErrShape)
		}
	}
	wantBad(t, [][]int{{2, 4}, {3, 6}}, api.ErrClash)
	wantBad(t, [][]int{{1, 2, 3}, {4, 5, 6}, {7, 8, 9}}, api.ErrClash)
	wantBad(t, [][]int{{20, 20, 20}, {-20, -20, -20}, {20, 20, -20}}, api.ErrClash)
}

// checkArguments calls both functions again and again, and checks that arguments
// stay as they are, with their spare capacity, and results too.
func checkArguments(t *testing.T, m [][]int) {
	t.Helper()
	m = sample.Spacious(m)
	before := sample.Whole(m)
	parts, err := Parts(m)
	want, told := slices.Clone(parts), plain.Told(err)
	index, _ := Index(m)
	for range 2 {
		next, err := Parts(m)
		if !slices.Equal(next, want) || plain.Told(err) != told {
			t.Fatalf("of %v, the results are first %v and later %v", before, want, next)
		}
		sample.Spoil([][]int{next})
		if !slices.Equal(parts, want) {
			t.Fatalf("of %v, two results share memory", before)
		}
		if again, err := Index(m); again != index || plain.Told(err) != told {
			t.Fatalf("of %v, the indices are first %d and later %d", before, index, again)
		}
	}
	if !sample.Same(sample.Whole(m), before) {
		t.Fatalf("argument %v became %v", before, sample.Whole(m))
	}
	// What the caller does to the argument later is not seen in the result.
	sample.Spoil(m)
	if !slices.Equal(parts, want) {
		t.Fatalf("of %v, the result shares memory with the argument", before)
	}
}

func TestArguments(t *testing.T) {
	for rows, columns := range kind().Sizes() {
		for seed := range 20 {
			checkArguments(t, kind().Mixed(rows, columns, seed))
			checkArguments(t, kind().Regular(rows, seed))
		}
		checkArguments(t, sample.Unit(rows))
		checkArguments(t, sample.Filled(rows, columns, 0))
		checkArguments(t, sample.Filled(rows, columns, 21))
	}
	checkArguments(t, nil)
	checkArguments(t, sample.Unit(4))
	checkArguments(t, [][]int{{1, 2}, {3}})
}

// TestSharedArguments has rows that are the same memory as others, or overlap.
func TestSharedArguments(t *testing.T) {
	line := []int{4, 1, 7, -3, 2, 5, -6, 8}
	before := slices.Clone(line)
	for range 2 {
		for _, m := range [][][]int{
			{line[1:4], line[2:5], line[3:6]}, {line[:3], line[5:8], line[2:5]}, {line[:2], line[1:3]},
			{{1, 2}, line[2:4]}, {line[:1]},
		} {
			wantDefined(t, m)
		}
		wantBad(t, [][]int{line[:2], line[:2]}, api.ErrClash)
		if !slices.Equal(line, before) {
			t.Fatalf("%v became %v", before, line)
		}
	}
}

// TestMinors checks which minors there are of each size, and that no more of them
// come once a loop has ended.
func TestMinors(t *testing.T) {
	m := [][]int{{2, 3, 5}, {7, 11, 13}, {17, 19, 4}}
	for size := 1; size <= 3; size++ {
		var want []int
		for _, rows := range sample.Subsets(3, size) {
			for _, columns := range sample.Subsets(3, size) {
				want = append(want, sample.IntDet(sample.Part(m, rows, columns)))
			}
		}
		for many := range len(want) + 1 {
			got := sample.First(minors(m, size), many)
			if !slices.Equal(got, want[:many]) {
				t.Fatalf("the first %d minors of size %d are %v, want %v", many, size, got, want[:many])
			}
		}
	}
}
