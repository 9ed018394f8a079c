package perm

import (
	"slices"
	"testing"

	"rankmere/api"
	"rankmere/plain"
	"rankmere/sample"
)

// mostRows is how many rows there may be.
const mostRows = 5

// kind returns what the chapter says of its matrices.
func kind() sample.Kind {
	return sample.Kind{Side: mostRows, Least: -9, Most: 9}
}

// mixed returns a square matrix of elements that follow no plain rule; another seed
// makes another one.
func mixed(n, seed int) [][]int {
	return kind().Mixed(n, n, seed)
}

// few is mixed with elements that are -1, 0 or 1.
func few(n, seed int) [][]int {
	return sample.Kind{Side: mostRows, Least: -1, Most: 1}.Mixed(n, n, seed)
}

// both has the results of Of and Pairs.
type both struct{ of, pairs int }

// times returns what has the products of both.
func (b both) times(c both) both {
	return both{b.of * c.of, b.pairs * c.pairs}
}

// orders has all orders of the columns for each number of rows.
type orders [mostRows + 1][][]int

// allOrders returns the permutations that the definitions take.
func allOrders() orders {
	var o orders
	for n := range o {
		o[n] = sample.OrdersOf(n)
	}
	return o
}

// of returns the results by the definitions.
func (o orders) of(m [][]int) both {
	var sum both
	for _, order := range o[len(m)] {
		product := 1
		for i, j := range order {
			product *= m[i][j]
		}
		sum.of += product
		if product != 0 {
			sum.pairs++
		}
	}
	return sum
}

// excluded returns the permanent by the formula of Ryser: the products of the sums of
// rows, over all sets of columns, with a sign for each column that is left out.
func excluded(m [][]int) int {
	sum := 0
	for many := range len(m) + 1 {
		for _, columns := range sample.Subsets(len(m), many) {
			product := 1 - (len(m)-many)%2*2
			for _, row := range m {
				size := 0
				for _, j := range columns {
					size += row[j]
				}
				product *= size
			}
			sum += product
		}
	}
	return sum
}

// factorial returns the number of orders of n numbers.
func factorial(n int) int {
	product := 1
	for k := range n {
		product *= k + 1
	}
	return product
}

// wantBoth fails the test unless Check has no error for a matrix, and Of and Pairs
// return these numbers.
func wantBoth(t *testing.T, m [][]int, want both) {
	t.Helper()
	if err := Check(m); err != nil {
		t.Fatalf("Check(%v) = %v", m, err)
	}
	if got, err := Of(m); got != want.of || err != nil {
		t.Fatalf("Of(%v) = %d, %v, want %d", m, got, err, want.of)
	}
	if got, err := Pairs(m); got != want.pairs || err != nil {
		t.Fatalf("Pairs(%v) = %d, %v, want %d", m, got, err, want.pairs)
	}
}

// gotBoth returns the results, and fails the test if there is an error.
func gotBoth(t *testing.T, m [][]int) both {
	t.Helper()
	of, err := Of(m)
	if err != nil {
		t.Fatalf("Of(%v) has error %v", m, err)
	}
	pairs, err := Pairs(m)
	if err != nil {
		t.Fatalf("Pairs(%v) has error %v", m, err)
	}
	return both{of, pairs}
}

// wantBad fails the test unless all functions return nothing but this error.
func wantBad(t *testing.T, m [][]int, want api.Errno) {
	t.Helper()
	if err := Check(m); plain.Told(err) != want {
		t.Fatalf("Check(%v) = %v, want %v", m, err, want)
	}
	if got, err := Of(m); got != 0 || plain.Told(err) != want {
		t.Fatalf("Of(%v) = %d, %v, want 0 and %v", m, got, err, want)
	}
	if got, err := Pairs(m); got != 0 || plain.Told(err) != want {
		t.Fatalf("Pairs(%v) = %d, %v, want 0 and %v", m, got, err, want)
	}
}

func TestExamples(t *testing.T) {
	definition := allOrders()
	for _, c := range []struct {
		m    [][]int
		want both
	}{
		{[][]int{{1, 2}, {3, 4}}, both{10, 2}},
		{[][]int{{1, 0}, {0, 1}}, both{1, 1}},
		{[][]int{{0, 1}, {1, 0}}, both{1, 1}},
		{[][]int{{5}}, both{5, 1}},
		{[][]int{{-5}}, both{-5, 1}},
		{[][]int{{0}}, both{0, 0}},
		{[][]int{{1, 1}, {1, 1}}, both{2, 2}},
		{[][]int{{0, 2}, {3, 4}}, both{6, 1}},
		{[][]int{{0, 0}, {3, 4}}, both{0, 0}},
		{[][]int{{0, 2}, {0, 4}}, both{0, 0}},
		{[][]int{{1, 2}, {0, 0}}, both{0, 0}},
		{[][]int{{1, 0}, {3, 0}}, both{0, 0}},
		// Products cancel each other, but the permutations still count.
		{[][]int{{1, 1}, {-1, 1}}, both{0, 2}},
		{[][]int{{2, 3}, {4, -6}}, both{0, 2}},
		{[][]int{{-1, -1}, {-1, -1}}, both{2, 2}},
		{[][]int{{1, 2, 3}, {4, 5, 6}, {7, 8, 9}}, both{450, 6}},
		{[][]int{{2, 3, 5}, {7, 1, 4}, {6, 8, 9}}, both{653, 6}},
		{[][]int{{0, 1, 1}, {1, 0, 1}, {1, 1, 0}}, both{2, 2}},
		{[][]int{{0, 1, 2}, {1, 0, 3}, {4, 5, 0}}, both{22, 2}},
		{[][]int{{1, 2, 0}, {0, 3, 4}, {5, 0, 6}}, both{58, 2}},
		{[][]int{{1, 2, 0}, {0, 3, 4}, {-5, 0, 6}}, both{-22, 2}},
		{[][]int{{1, 1, 0}, {1, 1, 0}, {1, 1, 0}}, both{0, 0}},
		{[][]int{{1, 0, 0}, {1, 0, 0}, {1, 1, 1}}, both{0, 0}},
		{[][]int{{1, 1, 1}, {1, -1, 1}, {1, 1, -1}}, both{2, 6}},
		{[][]int{{1, 1, 0, 0}, {0, 1, 1, 0}, {0, 0, 1, 1}, {1, 0, 0, 1}}, both{2, 2}},
		{[][]int{{1, 1, 0, 0}, {0, 1, 1, 0}, {0, 0, 1, 1}, {-1, 0, 0, 1}}, both{0, 2}},
		{[][]int{{1, 1, 0, 0}, {1, 1, 0, 0}, {0, 0, 1, 1}, {0, 0, 1, 1}}, both{4, 4}},
		{[][]int{{1, 2, 3, 4}, {5, 6, 7, 8}, {9, 1, 2, 3}, {4, 5, 6, 7}}, both{8_872, 24}},
		{[][]int{{1, 0, 0, 0, 1}, {0, 1, 0, 1, 0}, {0, 0, 1, 0, 0}, {0, 1, 0, 1, 0}, {1, 0, 0, 0, 1}}, both{4, 4}},
		{[][]int{{0, 0, 0, 0, 2}, {0, 0, 0, 3, 0}, {0, 0, 5, 0, 0}, {0, 7, 0, 0, 0}, {-9, 0, 0, 0, 0}}, both{-1_890, 1}},
	} {
		wantBoth(t, c.m, c.want)
		wantBoth(t, sample.Turned(c.m), c.want)
		if got := definition.of(c.m); got != c.want {
			t.Fatalf("the results of %v are %v by the definitions, not %v", c.m, got, c.want)
		}
	}
}

// TestFilled has one number everywhere, and the largest and smallest permanents.
func TestFilled(t *testing.T) {
	for n := 1; n <= mostRows; n++ {
		wantBoth(t, sample.Filled(n, n, 0), both{0, 0})
		for k := -9; k <= 9; k++ {
			if k != 0 {
				want := both{factorial(n), factorial(n)}
				for range n {
					want.of *= k
				}
				wantBoth(t, sample.Filled(n, n, k), want)
			}
		}
	}
	wantBoth(t, sample.Filled(5, 5, 9), both{7_085_880, 120})
	wantBoth(t, sample.Filled(5, 5, -9), both{-7_085_880, 120})
}

// TestCounts has matrices of zeros and ones, whose permanents count something.
func TestCounts(t *testing.T) {
	for _, c := range []struct {
		name string
		has  func(n, i, j int) bool
		want []int
	}{
		{"orders", func(n, i, j int) bool { return true }, []int{1, 2, 6, 24, 120}},
		{"orders that leave no number at its place", func(n, i, j int) bool { return i != j }, []int{0, 1, 2, 9, 44}},
		{"seats of couples", func(n, i, j int) bool { return i != j && (i+1)%n != j }, []int{0, 0, 1, 2, 13}},
		{"exchanges of neighbors", func(n, i, j int) bool { return i-j <= 1 && j-i <= 1 }, []int{1, 2, 3, 5, 8}},
		{"small steps up", func(n, i, j int) bool { return j <= i+1 }, []int{1, 2, 4, 8, 16}},
		{"small steps", func(n, i, j int) bool { return i-j <= 2 && j-i <= 2 }, []int{1, 2, 6, 14, 31}},
		{"turns of one place or none", func(n, i, j int) bool { return i == j || (i+1)%n == j }, []int{1, 2, 2, 2, 2}},
		{"numbers that stay or fall", func(n, i, j int) bool { return j <= i }, []int{1, 1, 1, 1, 1}},
		{"numbers that rise", func(n, i, j int) bool { return j > i }, []int{0, 0, 0, 0, 0}},
		{"numbers that change between odd and even", func(n, i, j int) bool { return (i+j)%2 == 1 }, []int{0, 1, 0, 4, 0}},
		{"numbers that stay odd or even", func(n, i, j int) bool { return (i+j)%2 == 0 }, []int{1, 1, 2, 4, 12}},
	} {
		for n := 1; n <= mostRows; n++ {
			m := sample.Filled(n, n, 0)
			for i, row := range m {
				for j := range row {
					if c.has(n, i, j) {
						row[j] = 1
					}
				}
			}
			count := c.want[n-1]
			if got := gotBoth(t, m); got != (both{count, count}) {
				t.Errorf("%s: the results of %v are %v, want %d", c.name, m, got, count)
			}
		}
	}
}

// TestAllPairs has all matrices of one and of two rows.
func TestAllPairs(t *testing.T) {
	definition := allOrders()
	for a := -9; a <= 9; a++ {
		wantBoth(t, [][]int{{a}}, definition.of([][]int{{a}}))
		for b := -9; b <= 9; b++ {
			for c := -9; c <= 9; c++ {
				for d := -9; d <= 9; d++ {
					want := both{of: a*d + b*c}
					if a*d != 0 {
						want.pairs++
					}
					if b*c != 0 {
						want.pairs++
					}
					wantBoth(t, [][]int{{a, b}, {c, d}}, want)
				}
			}
		}
	}
}

// TestFewElements has all matrices of few different elements.
func TestFewElements(t *testing.T) {
	definition := allOrders()
	for _, c := range []struct {
		size     int
		elements []int
	}{
		{3, []int{-1, 0, 1}},
		{3, []int{-9, 0, 4}},
		{4, []int{0, 1}},
		{4, []int{0, -8}},
		{4, []int{-9, 7}},
	} {
		for m := range sample.All(c.size, c.size, c.elements...) {
			wantBoth(t, m, definition.of(m))
		}
	}
}

// TestAllSizes has matrices of all elements, and of few of them, of which there are
// more whose products are 0.
func TestAllSizes(t *testing.T) {
	definition := allOrders()
	for n := 1; n <= mostRows; n++ {
		for seed := range 1_000 {
			matrices := [][][]int{mixed(n, seed), few(n, seed)}
			for most := 1; most <= 3; most++ {
				matrices = append(matrices, sample.Kind{Side: mostRows, Least: 0, Most: most}.Mixed(n, n, seed))
			}
			for _, m := range matrices {
				want := definition.of(m)
				wantBoth(t, m, want)
				if got := excluded(m); got != want.of {
					t.Fatalf("the permanent of %v is %d by the definition, and %d by the formula", m, want.of, got)
				}
			}
		}
	}
}

// TestCancel has matrices whose permanent is 0 or small, as products cancel each
// other, though all permutations count: each element is 1 or -1.
func TestCancel(t *testing.T) {
	definition := allOrders()
	for n := 2; n <= mostRows; n++ {
		zeros := 0
		for seed := range 500 {
			m := few(n, seed)
			for i, row := range m {
				for j, k := range row {
					m[i][j] = 1 - k*k*2
				}
			}
			want := definition.of(m)
			if want.pairs != factorial(n) {
				t.Fatalf("not all permutations of %v count", m)
			}
			wantBoth(t, m, want)
			if want.of == 0 {
				zeros++
			}
		}
		// By the theorem of Simion and Schmidt, none is 0 if the number of rows is a
		// power of 2 minus 1.
		if (zeros > 0) != (n != 3) {
			t.Errorf("%d permanents of %d rows are 0", zeros, n)
		}
	}
}

// TestNotReduced has permanents that are multiples of Prime, but not 0, and others
// that are not in the field.
func TestNotReduced(t *testing.T) {
	// The last row has the digits of the permanent in base 9, as the others make the
	// number in each column count 9 times as much as the one before.
	for _, sign := range []int{1, -1} {
		for want := 9_973; want < 59_049; want += 9_973 {
			m := [][]int{{9, 1, 0, 0, 0}, {0, 9, 1, 0, 0}, {0, 0, 9, 1, 0}, {0, 0, 0, 9, 1}, {0, 0, 0, 0, 0}}
			digits, rest := 0, want
			for j := range m[4] {
				m[4][j] = sign * (rest % 9)
				if rest%9 != 0 {
					digits++
				}
				rest /= 9
			}
			wantBoth(t, m, both{sign * want, digits})
		}
	}
}

// TestElements has matrices that are 0, or the same as others, but for one element.
func TestElements(t *testing.T) {
	definition := allOrders()
	for n := 1; n <= mostRows; n++ {
		for place := range n * n {
			i, j := place/n, place%n
			for k := -9; k <= 9; k++ {
				alone := sample.With(n, n, i, j, k)
				wantBoth(t, alone, definition.of(alone))
				for _, m := range [][][]int{sample.Unit(n), sample.Filled(n, n, 1), mixed(n, k+20), few(n, k+20)} {
					m[i][j] = k
					wantBoth(t, m, definition.of(m))
				}
			}
		}
	}
}

// TestPermutations has one element in each row and column, for all orders of the
// columns.
func TestPermutations(t *testing.T) {
	for n := 1; n <= mostRows; n++ {
		for seed, order := range sample.OrdersOf(n) {
			numbers := kind().Mixed(1, n, seed)[0]
			ones, others := sample.Filled(n, n, 0), sample.Filled(n, n, 0)
			product := 1
			for i, j := range order {
				ones[i][j] = 1
				others[i][j] = numbers[i]
				product *= numbers[i]
			}
			wantBoth(t, ones, both{1, 1})
			if product == 0 {
				wantBoth(t, others, both{0, 0})
			} else {
				wantBoth(t, others, both{product, 1})
			}
		}
	}
}

// TestOrders has the rows of a matrix, or its columns, in all orders, which changes
// nothing, not even a sign.
func TestOrders(t *testing.T) {
	for n := 1; n <= mostRows; n++ {
		for seed := range 5 {
			for _, m := range [][][]int{mixed(n, seed), few(n, seed)} {
				want := gotBoth(t, m)
				for k, order := range sample.OrdersOf(n) {
					wantBoth(t, sample.Part(m, order, sample.UpTo(n)), want)
					wantBoth(t, sample.Part(m, sample.UpTo(n), order), want)
					wantBoth(t, sample.Part(m, order, sample.OrdersOf(n)[(k+seed)%factorial(n)]), want)
				}
			}
		}
	}
}

func TestTurned(t *testing.T) {
	for n := 1; n <= mostRows; n++ {
		for seed := range 200 {
			for _, m := range [][][]int{mixed(n, seed), few(n, seed)} {
				wantBoth(t, sample.Turned(m), gotBoth(t, m))
			}
		}
	}
}

// TestMultiples has a row, or a column, times a number.
func TestMultiples(t *testing.T) {
	for n := 1; n <= mostRows; n++ {
		for i := range n {
			for k := -9; k <= 9; k++ {
				m := few(n, 20+k)
				want := gotBoth(t, m)
				want.of *= k
				if k == 0 {
					want.pairs = 0
				}
				m[i] = sample.Multiple(m[i], k)
				wantBoth(t, m, want)
				wantBoth(t, sample.Turned(m), want)
			}
		}
	}
}

// TestSums has a row that is the sum of two others, whose permanents are added.
func TestSums(t *testing.T) {
	small := sample.Kind{Side: mostRows, Least: -4, Most: 4}
	for n := 1; n <= mostRows; n++ {
		for seed := range 100 {
			for i := range n {
				rows := small.Mixed(2, n, seed)
				sum := sample.IntMul([][]int{{1, 1}}, rows)[0]
				m := mixed(n, seed+1_000)
				var of [3]int
				for k, row := range [][]int{rows[0], rows[1], sum} {
					m[i] = row
					of[k] = gotBoth(t, m).of
				}
				if of[0]+of[1] != of[2] {
					t.Fatalf("with the rows %v and their sum at %d, the permanents of %v are %v", rows, i, m, of)
				}
			}
		}
	}
}

// TestRows has the expansions by all rows and columns.
func TestRows(t *testing.T) {
	for n := 2; n <= mostRows; n++ {
		for seed := range 50 {
			for _, m := range [][][]int{mixed(n, seed), few(n, seed)} {
				for i := range n {
					var row, column both
					for j := range n {
						if m[i][j] != 0 {
							rest := gotBoth(t, sample.Without(m, i, j))
							row.of += m[i][j] * rest.of
							row.pairs += rest.pairs
						}
						if m[j][i] != 0 {
							rest := gotBoth(t, sample.Without(m, j, i))
							column.of += m[j][i] * rest.of
							column.pairs += rest.pairs
						}
					}
					wantBoth(t, m, row)
					wantBoth(t, m, column)
				}
			}
		}
	}
}

// TestBlocks has two matrices on the diagonal of another one, whose results are
// multiplied.
func TestBlocks(t *testing.T) {
	for n := 1; n < mostRows; n++ {
		for rest := 1; n+rest <= mostRows; rest++ {
			for seed := range 50 {
				a, b := mixed(n, seed), few(rest, seed+100)
				want := gotBoth(t, a).times(gotBoth(t, b))
				for _, above := range [][][]int{sample.Filled(n, rest, 0), kind().Mixed(n, rest, seed+200)} {
					m := sample.Blocks(a, b, above)
					wantBoth(t, m, want)
					wantBoth(t, sample.Turned(m), want)
				}
			}
		}
	}
}

// TestTriangles has zeros below or above the diagonal, so that only the diagonal
// counts.
func TestTriangles(t *testing.T) {
	for n := 1; n <= mostRows; n++ {
		for seed := range 100 {
			m, product := mixed(n, seed), 1
			for i, row := range m {
				clear(row[:i])
				product *= row[i]
			}
			want := both{product, 1}
			if product == 0 {
				want.pairs = 0
			}
			wantBoth(t, m, want)
			wantBoth(t, sample.Turned(m), want)
		}
	}
}

// TestZeros has zeros where some rows and some columns meet, and no others. There is
// no permutation if these are more rows and columns than the matrix has rows.
func TestZeros(t *testing.T) {
	for n := 1; n <= mostRows; n++ {
		for high := 1; high <= n; high++ {
			for wide := 1; wide <= n; wide++ {
				want := 0
				if high+wide <= n {
					// The rows of zeros choose among the other columns, and the other
					// rows among what is left.
					want = factorial(n-wide) / factorial(n-wide-high) * factorial(n-high)
				}
				for _, rows := range sample.Subsets(n, high) {
					for _, columns := range sample.Subsets(n, wide) {
						m := sample.Filled(n, n, 1)
						for _, i := range rows {
							for _, j := range columns {
								m[i][j] = 0
							}
						}
						wantBoth(t, m, both{want, want})
					}
				}
			}
		}
	}
}

// TestPattern has matrices that are 0 at the same places, for which the permutations
// are the same ones.
func TestPattern(t *testing.T) {
	for n := 1; n <= mostRows; n++ {
		for seed := range 200 {
			m, ones := few(n, seed), few(n, seed)
			by := sample.Kind{Side: mostRows, Least: 1, Most: 9}.Mixed(n, n, seed+500)
			for i, row := range m {
				for j, k := range row {
					ones[i][j] = k * k
					row[j] = k * by[i][j]
				}
			}
			want := gotBoth(t, ones)
			if want.of != want.pairs {
				t.Fatalf("the results of %v are %v", ones, want)
			}
			wantBoth(t, m, both{gotBoth(t, m).of, want.pairs})
		}
	}
}

// TestColumns checks the order of the columns, and that no more of them come once a
// loop has ended.
func TestColumns(t *testing.T) {
	for set, want := range map[int][][2]int{
		0:  nil,
		1:  {{0, 0}},
		2:  {{1, 0}},
		3:  {{0, 2}, {1, 1}},
		4:  {{2, 0}},
		22: {{1, 20}, {2, 18}, {4, 6}},
		31: {{0, 30}, {1, 29}, {2, 27}, {3, 23}, {4, 15}},
	} {
		pairs := func(yield func([2]int) bool) {
			for column, others := range columns(set) {
				if !yield([2]int{column, others}) {
					return
				}
			}
		}
		for many := range len(want) + 1 {
			if got := sample.First(pairs, many); !slices.Equal(got, want[:many]) {
				t.Errorf("the first %d columns of %d are %v, want %v", many, set, got, want[:many])
			}
		}
	}
}

// TestBad has all lists that are no matrices.
func TestBad(t *testing.T) {
	for m, want := range kind().Bad() {
		wantBad(t, m, want)
	}
}

// TestNotSquare has matrices with more rows than columns and the other way round.
// All other errors come before this one.
func TestNotSquare(t *testing.T) {
	for m, want := range kind().NotSquare() {
		wantBad(t, m, want)
	}
	wantBad(t, [][]int{{1, 2}}, api.ErrShape)
	wantBad(t, [][]int{{1}, {2}}, api.ErrShape)
	wantBad(t, sample.Filled(2, 0, 0), api.ErrNone)
	wantBad(t, sample.Filled(6, 0, 0), api.ErrNone)
	wantBad(t, sample.Filled(1, 6, 0), api.ErrFull)
	wantBad(t, sample.Filled(6, 1, 0), api.ErrFull)
	wantBad(t, sample.Filled(6, 5, 0), api.ErrFull)
	// As many elements as a square matrix has do not help.
	wantBad(t, [][]int{{1, 2, 3}, {4}}, api.ErrShape)
	wantBad(t, [][]int{{1, 2}, {3, 4}, nil}, api.ErrShape)
	wantBad(t, [][]int{{1, 2}, {3, 4}, {10, 5}}, api.ErrRange)
	wantBad(t, [][]int{{1, 2}, {3, 4}, {5, -10}}, api.ErrRange)
	wantBad(t, [][]int{{1, 2, 3}, {4, 5, 10}}, api.ErrRange)
}

// TestTooLarge has square matrices of too many rows.
func TestTooLarge(t *testing.T) {
	definition := allOrders()
	for n := mostRows + 1; n <= 10; n++ {
		wantBad(t, sample.Filled(n, n, 0), api.ErrFull)
		wantBad(t, sample.Filled(n, n, 10), api.ErrFull)
		wantBad(t, sample.Unit(n), api.ErrFull)
		wantBad(t, mixed(n, 1), api.ErrFull)
		// Spare capacity does not count.
		m := mixed(n, 1)[:mostRows]
		for i := range m {
			m[i] = m[i][:mostRows]
		}
		wantBoth(t, m, definition.of(m))
	}
}

// TestRowsInOrder has errors in several rows, of which the first one decides.
func TestRowsInOrder(t *testing.T) {
	wantBad(t, [][]int{{1, 10}, {2}}, api.ErrRange)
	wantBad(t, [][]int{{1, 2}, {3}, {10, 4}}, api.ErrShape)
	wantBad(t, [][]int{{1, 2, 3}, {4, 5}, {7, 8, 10}}, api.ErrShape)
	wantBad(t, [][]int{{1, 2, 3}, {4, 5, 10}, {7, 8}}, api.ErrRange)
	wantBad(t, [][]int{{1, 2, 3}, {4, 10}, {7, 8, 9}}, api.ErrShape)
	wantBad(t, [][]int{{1, 2}, {3, 4, 10}}, api.ErrShape)
	wantBad(t, [][]int{{1, 2}, {}}, api.ErrShape)
	wantBad(t, [][]int{{}, {1, 2}}, api.ErrNone)
	wantBad(t, [][]int{nil, {10}}, api.ErrNone)
}

// TestLimits has elements that are too large or too small at all places.
func TestLimits(t *testing.T) {
	for n := 1; n <= mostRows; n++ {
		for place := range n * n {
			for _, k := range kind().Outside() {
				for _, m := range [][][]int{mixed(n, 7), sample.Filled(n, n, 0), sample.Unit(n)} {
					m[place/n][place%n] = k
					wantBad(t, m, api.ErrRange)
				}
			}
		}
	}
}

// checkArguments calls all functions again and again, and checks that the argument
// stays as it is, with its spare capacity, and that the results are the same.
func checkArguments(t *testing.T, m [][]int) {
	t.Helper()
	m = sample.Spacious(m)
	before := sample.Whole(m)
	check := Check(m)
	of, ofErr := Of(m)
	pairs, pairsErr := Pairs(m)
	for range 2 {
		if err := Check(m); plain.Told(err) != plain.Told(check) {
			t.Fatalf("of %v, the errors are first %v and later %v", before, check, err)
		}
		if got, err := Of(m); got != of || plain.Told(err) != plain.Told(ofErr) {
			t.Fatalf("of %v, the results are first %v, %v and later %v, %v", before, of, ofErr, got, err)
		}
		if got, err := Pairs(m); got != pairs || plain.Told(err) != plain.Told(pairsErr) {
			t.Fatalf("of %v, the results are first %v, %v and later %v, %v", before, pairs, pairsErr, got, err)
		}
	}
	if after := sample.Whole(m); !sample.Same(after, before) {
		t.Fatalf("%v became %v", before, after)
	}
}

func TestArguments(t *testing.T) {
	for rows, columns := range kind().Sizes() {
		for seed := range 10 {
			checkArguments(t, kind().Mixed(rows, columns, seed))
			checkArguments(t, few(rows, seed))
		}
		checkArguments(t, sample.Filled(rows, columns, 0))
		checkArguments(t, sample.Filled(rows, columns, 1))
		checkArguments(t, sample.Filled(rows, columns, 10))
	}
	checkArguments(t, nil)
	checkArguments(t, sample.Unit(5))
	checkArguments(t, sample.Unit(6))
	checkArguments(t, [][]int{{1, 2}, {3}})
}

// TestSharedArguments has rows that are the same memory, or overlap.
func TestSharedArguments(t *testing.T) {
	definition := allOrders()
	line := kind().Mixed(1, 12, 14)[0]
	before := slices.Clone(line)
	for _, m := range [][][]int{
		{line[:5], line[7:12], line[2:7], line[4:9], line[1:6]},
		{line[:5], line[:5], line[2:7], line[7:12], line[:5]},
		slices.Repeat([][]int{line[3:8]}, 5),
		slices.Repeat([][]int{line[:2]}, 2),
	} {
		want := definition.of(m)
		for range 2 {
			wantBoth(t, m, want)
		}
	}
	if !slices.Equal(line, before) {
		t.Fatalf("%v became %v", before, line)
	}
}
