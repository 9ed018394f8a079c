package pfaff

import (
	"math"
	"slices"
	"testing"

	"rankmere/api"
	"rankmere/plain"
	"rankmere/sample"
)

// mostRows is how many rows there may be.
const mostRows = 6

// kind returns what the chapter says of its matrices.
func kind() sample.Kind {
	return sample.Kind{Side: mostRows, Least: -9, Most: 9}
}

// fewKind is the kind of the matrices whose elements are -1, 0 and 1.
func fewKind() sample.Kind {
	return sample.Kind{Side: mostRows, Least: -1, Most: 1}
}

// many returns how many elements of n rows are above the diagonal.
func many(n int) int {
	return n * (n - 1) / 2
}

// skew returns the skew-symmetric matrix of n rows that has these elements above
// the diagonal, row by row.
func skew(n int, above ...int) [][]int {
	m := sample.Filled(n, n, 0)
	for i := range n {
		for j := i + 1; j < n; j++ {
			m[i][j], m[j][i] = above[0], -above[0]
			above = above[1:]
		}
	}
	return m
}

// mixed returns a skew-symmetric matrix of elements that follow no plain rule;
// another seed makes another one.
func mixed(n, seed int) [][]int {
	return skew(n, kind().Mixed(1, many(n), seed)[0]...)
}

// few is mixed with elements that are -1, 0 or 1.
func few(n, seed int) [][]int {
	return skew(n, fewKind().Mixed(1, many(n), seed)[0]...)
}

// all calls f with all skew-symmetric matrices of n rows that have only these
// elements above the diagonal.
func all(n int, elements []int, f func(m [][]int)) {
	for above := range sample.All(1, many(n), elements...) {
		f(skew(n, above[0]...))
	}
}

// signed is a partition into pairs, listed one behind the other, with its sign.
type signed struct {
	order []int
	sign  int
}

// partitions has those of the row numbers for each number of rows.
type partitions [mostRows + 1][]signed

// allPartitions returns the orders of the row numbers that the definition takes.
func allPartitions() partitions {
	var p partitions
	for n := 2; n <= mostRows; n += 2 {
		for _, order := range sample.OrdersOf(n) {
			if inOrder(order) {
				p[n] = append(p[n], signed{order, sample.Sign(order)})
			}
		}
	}
	return p
}

// inOrder tells whether the smaller number of each pair comes first, and the first
// numbers of the pairs are in increasing order.
func inOrder(order []int) bool {
	for i, n := range order {
		if i%2 == 1 && n < order[i-1] || i%2 == 0 && i > 0 && n < order[i-2] {
			return false
		}
	}
	return true
}

// of returns the Pfaffian by the definition.
func (p partitions) of(m [][]int) int {
	sum := 0
	for _, part := range p[len(m)] {
		product := part.sign
		for i := 1; i < len(m); i += 2 {
			product *= m[part.order[i-1]][part.order[i]]
		}
		sum += product
	}
	return sum
}

// expanded returns the Pfaffian of an even number of rows by the elements of the
// first one, each times the Pfaffian of what is left without its row and column on
// both sides.
func expanded(m [][]int) int {
	if len(m) == 0 {
		return 1
	}
	sum := 0
	for j, n := range m[0][1:] {
		rest := sample.Without(sample.Without(m, 0, 0), j, j)
		sum += (1 - j%2*2) * n * expanded(rest)
	}
	return sum
}

// wantOf fails the test unless Check has no error for a matrix, Of returns this
// number, and Det its square.
func wantOf(t *testing.T, m [][]int, want int) {
	t.Helper()
	if err := Check(m); err != nil {
		t.Fatalf("Check(%v) = %v", m, err)
	}
	if got, err := Of(m); got != want || err != nil {
		t.Fatalf("Of(%v) = %d, %v, want %d", m, got, err, want)
	}
	if got, err := Det(m); got != want*want || err != nil {
		t.Fatalf("Det(%v) = %d, %v, want %d", m, got, err, want*want)
	}
}

// wantDet fails the test unless Det returns what the expansion by rows gives.
func wantDet(t *testing.T, m [][]int) {
	t.Helper()
	want := sample.IntDet(m)
	if got, err := Det(m); got != want || err != nil {
		t.Fatalf("Det(%v) = %d, %v, want %d", m, got, err, want)
	}
}

// gotOf returns the Pfaffian and fails the test if there is an error.
func gotOf(t *testing.T, m [][]int) int {
	t.Helper()
	got, err := Of(m)
	if err != nil {
		t.Fatalf("Of(%v) has error %v", m, err)
	}
	return got
}

// wantBad fails the test unless all functions return nothing but this error.
func wantBad(t *testing.T, m [][]int, want api.Errno) {
	t.Helper()
	if err := Check(m); plain.Told(err) != want {
		t.Fatalf("Check(%v) = %v, want %v", m, err, want)
	}
	if got, err := Of(m); got != 0 || plain.Told(err) != want {
		t.Fatalf("Of(%v) = %d, %v, want 0 and %v", m, got, err, want)
	}
	if got, err := Det(m); got != 0 || plain.Told(err) != want {
		t.Fatalf("Det(%v) = %d, %v, want 0 and %v", m, got, err, want)
	}
}

func TestExamples(t *testing.T) {
	parts := allPartitions()
	for _, c := range []struct {
		m    [][]int
		want int
	}{
		{[][]int{{0, 3}, {-3, 0}}, 3},
		{[][]int{{0, -3}, {3, 0}}, -3},
		{[][]int{{0, 9}, {-9, 0}}, 9},
		{[][]int{{0, -9}, {9, 0}}, -9},
		{[][]int{{0, 0}, {0, 0}}, 0},
		{[][]int{{0}}, 0},
		{[][]int{{0, 1, 2}, {-1, 0, 3}, {-2, -3, 0}}, 0},
		{[][]int{{0, 1, 0, 0}, {-1, 0, 0, 0}, {0, 0, 0, 2}, {0, 0, -2, 0}}, 2},
		// Each of the three partitions alone.
		{skew(4, 3, 0, 0, 0, 0, 5), 15},
		{skew(4, 0, 3, 0, 0, 5, 0), -15},
		{skew(4, 0, 0, 3, 5, 0, 0), 15},
		{skew(4, 1, 2, 3, 4, 5, 6), 8},
		{skew(4, 6, 5, 4, 3, 2, 1), 8},
		{skew(4, 9, 9, 9, 9, -9, 9), 243},
		{skew(4, 9, 9, -9, 9, 9, -9), -243},
		{skew(4, 1, 1, 1, 1, 1, 1), 1},
		{skew(5, 1, 2, 3, 4, 5, 6, 7, 8, 9, 1), 0},
		{skew(6, 1, 0, 0, 0, 0, 0, 0, 0, 0, 2, 0, 0, 0, 0, 3), 6},
		{skew(6, 0, 0, 0, 0, 1, 0, 0, 2, 0, 3, 0, 0, 0, 0, 0), 6},
		{skew(6, 0, 0, 2, 0, 0, 0, 0, 3, 0, 0, 0, 5, 0, 0, 0), -30},
		{skew(6, 1, 1, 1, 1, 1, 1, 1, 1, 1, 1, 1, 1, 1, 1, 1), 1},
		{skew(6, 1, 2, 3, 4, 5, 6, 7, 8, 9, 1, 2, 3, 4, 5, 6), 40},
	} {
		wantOf(t, c.m, c.want)
		wantDet(t, c.m)
		if got := parts.of(c.m); got != c.want {
			t.Fatalf("the Pfaffian of %v is %d by the definition, not %d", c.m, got, c.want)
		}
	}
}

// TestPartitions checks that the definition has all partitions, of which there are
// the products of the odd numbers below the number of rows.
func TestPartitions(t *testing.T) {
	parts := allPartitions()
	for n, want := range []int{0, 0, 1, 0, 3, 0, 15} {
		if len(parts[n]) != want {
			t.Errorf("there are %d partitions of %d rows, want %d", len(parts[n]), n, want)
		}
	}
}

// TestAllPairs has all matrices of two rows.
func TestAllPairs(t *testing.T) {
	for k := -9; k <= 9; k++ {
		wantOf(t, [][]int{{0, k}, {-k, 0}}, k)
		wantDet(t, [][]int{{0, k}, {-k, 0}})
	}
}

// TestFewElements has all matrices of few different elements.
func TestFewElements(t *testing.T) {
	all(3, []int{-9, -4, 0, 1, 7}, func(m [][]int) {
		wantOf(t, m, 0)
		wantDet(t, m)
	})
	all(4, []int{-9, 0, 1, 7}, func(m [][]int) {
		wantOf(t, m, m[0][1]*m[2][3]-m[0][2]*m[1][3]+m[0][3]*m[1][2])
		wantDet(t, m)
	})
	all(5, []int{-8, 5}, func(m [][]int) {
		wantOf(t, m, 0)
		wantDet(t, m)
	})
	parts := allPartitions()
	all(6, []int{0, 1}, func(m [][]int) { wantOf(t, m, parts.of(m)) })
	all(6, []int{-5, 4}, func(m [][]int) { wantOf(t, m, parts.of(m)) })
}

// TestAllSizes has matrices that follow no plain rule.
func TestAllSizes(t *testing.T) {
	parts := allPartitions()
	for n := 1; n <= mostRows; n++ {
		zeros := 0
		for seed := range 1_000 {
			for _, m := range [][][]int{mixed(n, seed), few(n, seed)} {
				want := parts.of(m)
				wantOf(t, m, want)
				if n%2 == 0 && expanded(m) != want {
					t.Fatalf("the Pfaffian of %v is %d by the definition, and %d by the first row", m, want, expanded(m))
				}
				if want == 0 {
					zeros++
				}
				if seed < 200 {
					wantDet(t, m)
				}
			}
		}
		if n%2 == 0 && zeros > 1_000 {
			t.Errorf("%d Pfaffians of %d rows are 0", zeros, n)
		}
	}
}

// TestLargest has the largest Pfaffians that there are. They come with elements 9
// and -9 alone, as a Pfaffian is linear in each element above the diagonal.
func TestLargest(t *testing.T) {
	parts := allPartitions()
	for n, want := range map[int]int{2: 9, 4: 243, 6: 6_561} {
		least, most := 0, 0
		all(n, []int{-9, 9}, func(m [][]int) {
			pfaffian := parts.of(m)
			wantOf(t, m, pfaffian)
			least, most = min(least, pfaffian), max(most, pfaffian)
			if pfaffian == want {
				wantDet(t, m)
			}
		})
		if least != -want || most != want {
			t.Errorf("Pfaffians of %d rows are from %d to %d, want %d", n, least, most, want)
		}
	}
}

// TestOdd has odd numbers of rows, of which there is no partition.
func TestOdd(t *testing.T) {
	for n := 1; n <= mostRows; n += 2 {
		for k := -9; k <= 9; k++ {
			m := skew(n, slices.Repeat([]int{k}, many(n))...)
			wantOf(t, m, 0)
			wantDet(t, m)
		}
		for seed := range 200 {
			wantOf(t, mixed(n, seed), 0)
			wantOf(t, few(n, seed), 0)
		}
	}
}

// TestElements has matrices that are 0 but for one element and the other one at its
// transposed position, and others where only these differ.
func TestElements(t *testing.T) {
	parts := allPartitions()
	for n := 2; n <= mostRows; n++ {
		for place := range many(n) {
			for k := -9; k <= 9; k++ {
				alone := make([]int, many(n))
				alone[place] = k
				want := 0
				if n == 2 {
					want = k
				}
				wantOf(t, skew(n, alone...), want)
				above := kind().Mixed(1, many(n), k+20)[0]
				above[place] = k
				wantOf(t, skew(n, above...), parts.of(skew(n, above...)))
			}
		}
	}
}

// TestOrders has the rows and columns in all orders, the same for both, which only
// has a sign.
func TestOrders(t *testing.T) {
	for n := 1; n <= mostRows; n++ {
		for seed := range 3 {
			m := mixed(n, seed)
			pfaffian := gotOf(t, m)
			for _, order := range sample.OrdersOf(n) {
				wantOf(t, sample.Part(m, order, order), sample.Sign(order)*pfaffian)
			}
		}
	}
}

// TestTurned has transposes, in which each factor is negated.
func TestTurned(t *testing.T) {
	for n := 1; n <= mostRows; n++ {
		for seed := range 100 {
			m, sign := mixed(n, seed), 1
			if n/2%2 == 1 {
				sign = -1
			}
			wantOf(t, sample.Turned(m), sign*gotOf(t, m))
		}
	}
}

// TestMultiples has a row and its column times a number.
func TestMultiples(t *testing.T) {
	for n := 1; n <= mostRows; n++ {
		for i := range n {
			for k := -9; k <= 9; k++ {
				m := few(n, 20+k)
				pfaffian := gotOf(t, m)
				for j := range n {
					m[i][j] *= k
					m[j][i] *= k
				}
				wantOf(t, m, k*pfaffian)
			}
		}
	}
}

// TestProducts has matrices between a matrix and its transpose. This takes the
// Pfaffian times the determinant.
func TestProducts(t *testing.T) {
	for n := 2; n <= mostRows; n += 2 {
		for seed := range 300 {
			signs, want := fewKind().Mixed(1, n/2, seed)[0], 1
			m := sample.Filled(n, n, 0)
			for k, sign := range signs {
				m[2*k][2*k+1], m[2*k+1][2*k] = sign, -sign
				want *= sign
			}
			wantOf(t, m, want)
			by := fewKind().Mixed(n, n, seed+1_000)
			product := sample.IntMul(sample.IntMul(by, m), sample.Turned(by))
			wantOf(t, product, want*sample.IntDet(by))
		}
	}
}

// TestBlocks has two matrices on the diagonal, whose Pfaffians are multiplied.
func TestBlocks(t *testing.T) {
	for n := 1; n < mostRows; n++ {
		for rest := 1; n+rest <= mostRows; rest++ {
			for seed := range 50 {
				a, b := mixed(n, seed), mixed(rest, seed+100)
				wantOf(t, sample.Blocks(a, b, sample.Filled(n, rest, 0)), gotOf(t, a)*gotOf(t, b))
			}
		}
	}
}

// TestCorners has a matrix in the right upper corner and zeros at its sides, so that
// the partitions are the orders of the columns of that matrix.
func TestCorners(t *testing.T) {
	for n := 1; n <= mostRows/2; n++ {
		for seed := range 200 {
			corner := kind().Mixed(n, n, seed)
			m := sample.Filled(2*n, 2*n, 0)
			for i, row := range corner {
				for j, k := range row {
					m[i][n+j], m[n+j][i] = k, -k
				}
			}
			sign := 1 - many(n)%2*2
			wantOf(t, m, sign*sample.IntDet(corner))
		}
	}
}

// TestRanks has matrices of rank 2, or less, whose Pfaffian is 0 if there are more
// rows, and others that have equal rows or a row of zeros.
func TestRanks(t *testing.T) {
	for n := 3; n <= mostRows; n++ {
		for seed := range 100 {
			rows := sample.Kind{Side: mostRows, Least: -2, Most: 2}.Mixed(2, n, seed)
			turn := [][]int{{0, 1}, {-1, 0}}
			m := sample.IntMul(sample.IntMul(sample.Turned(rows), turn), rows)
			wantOf(t, m, 0)
			wantDet(t, m)
		}
		for i := range n {
			order := sample.UpTo(n)
			order[i] = (i + 1) % n
			twice := sample.Part(mixed(n, i), order, order)
			wantOf(t, twice, 0)
			zeros := mixed(n, i)
			for j := range n {
				zeros[i][j], zeros[j][i] = 0, 0
			}
			wantOf(t, zeros, 0)
		}
	}
}

// TestTilings counts the ways to cover a board of two rows with dominoes, by the
// rule of Kasteleyn: neighbors in a row have 1, and those in a column 1 and -1 in
// turn.
func TestTilings(t *testing.T) {
	for width, want := range map[int]int{1: 1, 2: 2, 3: 3} {
		m := sample.Filled(2*width, 2*width, 0)
		for k := range width {
			m[k][width+k] = 1 - k%2*2
			m[width+k][k] = -m[k][width+k]
			if k > 0 {
				for _, first := range []int{0, width} {
					m[first+k-1][first+k], m[first+k][first+k-1] = 1, -1
				}
			}
		}
		got := gotOf(t, m)
		wantOf(t, m, got)
		if max(got, -got) != want {
			t.Errorf("there are %d ways for %d columns, want %d", got, width, want)
		}
	}
}

// TestPairings checks the order of the partitions, and that no more of them come
// once a loop has ended.
func TestPairings(t *testing.T) {
	for _, c := range []struct {
		numbers []int
		want    [][]int
	}{
		{nil, [][]int{{}}},
		{[]int{7}, nil},
		{[]int{1, 4}, [][]int{{1, 4}}},
		{[]int{0, 1, 2}, nil},
		{[]int{0, 1, 2, 3}, [][]int{{0, 1, 2, 3}, {0, 2, 1, 3}, {0, 3, 1, 2}}},
		{[]int{1, 2, 4, 7}, [][]int{{1, 2, 4, 7}, {1, 4, 2, 7}, {1, 7, 2, 4}}},
		{[]int{0, 1, 2, 3, 4}, nil},
		{[]int{0, 1, 2, 3, 4, 5}, [][]int{
			{0, 1, 2, 3, 4, 5}, {0, 1, 2, 4, 3, 5}, {0, 1, 2, 5, 3, 4},
			{0, 2, 1, 3, 4, 5}, {0, 2, 1, 4, 3, 5}, {0, 2, 1, 5, 3, 4},
			{0, 3, 1, 2, 4, 5}, {0, 3, 1, 4, 2, 5}, {0, 3, 1, 5, 2, 4},
			{0, 4, 1, 2, 3, 5}, {0, 4, 1, 3, 2, 5}, {0, 4, 1, 5, 2, 3},
			{0, 5, 1, 2, 3, 4}, {0, 5, 1, 3, 2, 4}, {0, 5, 1, 4, 2, 3},
		}},
	} {
		for many := range len(c.want) + 1 {
			if got := sample.First(pairings(c.numbers), many); !sample.Same(got, c.want[:many]) {
				t.Errorf("the first %d partitions of %v are %v, want %v", many, c.numbers, got, c.want[:many])
			}
		}
	}
}

// TestBad has all lists that are no matrices.
func TestBad(t *testing.T) {
	for m, want := range kind().Bad() {
		wantBad(t, m, want)
	}
}

// TestNotSquare has matrices with more rows than columns and the other way round.
// All errors but that of a matrix that is not skew-symmetric come before this one.
func TestNotSquare(t *testing.T) {
	for m, want := range kind().NotSquare() {
		wantBad(t, m, want)
	}
	wantBad(t, sample.Filled(2, 0, 0), api.ErrNone)
	wantBad(t, sample.Filled(7, 0, 0), api.ErrNone)
	wantBad(t, sample.Filled(1, 7, 0), api.ErrFull)
	wantBad(t, sample.Filled(7, 1, 0), api.ErrFull)
	wantBad(t, [][]int{{0, 1, 2}, {-1, 0, 3}}, api.ErrShape)
	wantBad(t, [][]int{{0, 1}, {-1, 0}, {-2, -3}}, api.ErrShape)
	wantBad(t, [][]int{{1, 2}, {3, 4}, {5, 6}}, api.ErrShape)
	wantBad(t, [][]int{{0, 1}, {-1, 0}, {-2, 10}}, api.ErrRange)
	wantBad(t, [][]int{{0, 1}, {-1, 0}, {-2}}, api.ErrShape)
	wantBad(t, [][]int{{0, 0}}, api.ErrShape)
	wantBad(t, [][]int{{0}, {0}}, api.ErrShape)
}

// TestTooLarge has skew-symmetric matrices of too many rows.
func TestTooLarge(t *testing.T) {
	for n := mostRows + 1; n <= 10; n++ {
		wantBad(t, sample.Filled(n, n, 0), api.ErrFull)
		wantBad(t, mixed(n, 1), api.ErrFull)
		wantBad(t, skew(n, slices.Repeat([]int{10}, many(n))...), api.ErrFull)
		wantBad(t, kind().Mixed(n, n, 2), api.ErrFull)
		// Spare capacity does not count.
		m := mixed(n, 1)[:mostRows]
		for i := range m {
			m[i] = m[i][:mostRows]
		}
		wantOf(t, m, allPartitions().of(m))
	}
}

// TestNotSkew has matrices that are not skew-symmetric at each place.
func TestNotSkew(t *testing.T) {
	for n := 1; n <= mostRows; n++ {
		for place := range n * n {
			i, j := place/n, place%n
			for k := -9; k <= 9; k++ {
				for _, m := range [][][]int{mixed(n, 20+k), few(n, 20+k), sample.Filled(n, n, 0)} {
					if m[i][j] == k {
						continue
					}
					m[i][j] = k
					wantBad(t, m, api.ErrClash)
				}
				// Elements are equal, but not negated.
				if k != 0 {
					m := mixed(n, 20+k)
					m[i][j], m[j][i] = k, k
					wantBad(t, m, api.ErrClash)
				}
			}
		}
		// Matrices that are symmetric.
		for k := -9; k <= 9; k++ {
			if k != 0 {
				wantBad(t, sample.Filled(n, n, k), api.ErrClash)
			}
		}
		wantBad(t, sample.Unit(n), api.ErrClash)
	}
	wantBad(t, [][]int{{1}}, api.ErrClash)
	wantBad(t, [][]int{{0, 1}, {1, 0}}, api.ErrClash)
	wantBad(t, [][]int{{0, 1}, {0, 0}}, api.ErrClash)
	wantBad(t, [][]int{{0, 0}, {1, 0}}, api.ErrClash)
	wantBad(t, [][]int{{1, 2}, {-2, -1}}, api.ErrClash)
}

// TestRowsFirst has matrices that are not skew-symmetric, and later an error of a
// row, which comes first.
func TestRowsFirst(t *testing.T) {
	wantBad(t, [][]int{{1, 2}, {3, 10}}, api.ErrRange)
	wantBad(t, [][]int{{1, 10}, {2, 3}}, api.ErrRange)
	wantBad(t, [][]int{{0, 10}, {-10, 0}}, api.ErrRange)
	wantBad(t, [][]int{{0, math.MinInt}, {math.MinInt, 0}}, api.ErrRange)
	wantBad(t, [][]int{{1, 2, 3}, {4, 5, 6}, {7, 8}}, api.ErrShape)
	wantBad(t, [][]int{{1, 2, 3}, {4, 5}, {7, 8, 10}}, api.ErrShape)
	wantBad(t, [][]int{{1, 2, 3}, {4, 5, 10}, {7, 8}}, api.ErrRange)
	wantBad(t, [][]int{{1, 2, 3}, {4, 10}, {7, 8, 9}}, api.ErrShape)
	for n := 1; n <= mostRows; n++ {
		for place := range n * n {
			for _, k := range kind().Outside() {
				m := sample.Filled(n, n, 1)
				m[place/n][place%n] = k
				wantBad(t, m, api.ErrRange)
			}
		}
	}
}

// TestLimits has elements that are too large or too small at all places of
// matrices that are skew-symmetric.
func TestLimits(t *testing.T) {
	for n := 2; n <= mostRows; n++ {
		for place := range many(n) {
			for _, k := range kind().Outside() {
				above := kind().Mixed(1, many(n), 7)[0]
				above[place] = k
				wantBad(t, skew(n, above...), api.ErrRange)
				clear(above)
				above[place] = k
				wantBad(t, skew(n, above...), api.ErrRange)
			}
		}
	}
}

// checkArguments calls all functions again and again, and checks that the argument
// stays as it is, with its spare capacity, and results too.
func checkArguments(t *testing.T, m [][]int) {
	t.Helper()
	m = sample.Spacious(m)
	before := sample.Whole(m)
	check := Check(m)
	of, ofErr := Of(m)
	det, detErr := Det(m)
	for range 2 {
		if err := Check(m); plain.Told(err) != plain.Told(check) {
			t.Fatalf("of %v, the errors are first %v and later %v", before, check, err)
		}
		if got, err := Of(m); got != of || plain.Told(err) != plain.Told(ofErr) {
			t.Fatalf("of %v, the results are first %v, %v and later %v, %v", before, of, ofErr, got, err)
		}
		if got, err := Det(m); got != det || plain.Told(err) != plain.Told(detErr) {
			t.Fatalf("of %v, the results are first %v, %v and later %v, %v", before, det, detErr, got, err)
		}
	}
	if after := sample.Whole(m); !sample.Same(after, before) {
		t.Fatalf("%v became %v", before, after)
	}
}

func TestArguments(t *testing.T) {
	for rows, columns := range kind().Sizes() {
		checkArguments(t, kind().Mixed(rows, columns, 1))
		checkArguments(t, mixed(rows, 2))
		checkArguments(t, few(rows, 3))
		checkArguments(t, sample.Filled(rows, columns, 0))
		checkArguments(t, sample.Filled(rows, columns, 10))
	}
	checkArguments(t, nil)
	checkArguments(t, mixed(7, 1))
	checkArguments(t, [][]int{{0, 1}, {-1}})
}

// TestSharedArguments has rows that are the same memory as others, or overlap.
func TestSharedArguments(t *testing.T) {
	// Each row is the one before, moved by one place.
	line := []int{-5, 7, -1, -9, 2, 0, -2, 9, 1, -7, 5}
	before := slices.Clone(line)
	parts := allPartitions()
	for n := 1; n <= mostRows; n++ {
		var m [][]int
		for i := range n {
			m = append(m, line[5-i:5-i+n])
		}
		for range 2 {
			wantOf(t, m, parts.of(m))
			wantDet(t, m)
		}
		wantOf(t, slices.Repeat([][]int{make([]int, n)}, n), 0)
	}
	if !slices.Equal(line, before) {
		t.Fatalf("%v became %v", before, line)
	}
}
