package det

import (
	"math"
	"slices"
	"testing"

	"rankmere/api"
	"rankmere/plain"
	"rankmere/sample"
)

// wantOf fails the test unless Check has no error for a matrix, and Of returns
// this and none.
func wantOf(t *testing.T, m [][]int, want int) {
	t.Helper()
	if err := Check(m); err != nil {
		t.Fatalf("Check(%v) = %v", m, err)
	}
	if got, err := Of(m); got != want || err != nil {
		t.Fatalf("Of(%v) = %d, %v, want %d", m, got, err, want)
	}
}

// wantDet fails the test unless Of returns what the expansion by the first row
// gives.
func wantDet(t *testing.T, m [][]int) {
	t.Helper()
	wantOf(t, m, sample.Det(m))
}

// wantBad fails the test unless both functions return nothing but this error.
func wantBad(t *testing.T, m [][]int, want api.Errno) {
	t.Helper()
	if err := Check(m); plain.Told(err) != want {
		t.Fatalf("Check(%v) = %v, want %v", m, err, want)
	}
	if got, err := Of(m); got != 0 || plain.Told(err) != want {
		t.Fatalf("Of(%v) = %d, %v, want 0 and %v", m, got, err, want)
	}
}

// wantSign fails the test unless Sign returns this.
func wantSign(t *testing.T, order []int, want int) {
	t.Helper()
	if got := Sign(order); got != want {
		t.Fatalf("Sign(%v) = %d, want %d", order, got, want)
	}
}

// isOrder tells whether each number from 0 on is in a list once.
func isOrder(numbers []int) bool {
	for n := range numbers {
		if !slices.Contains(numbers, n) {
			return false
		}
	}
	return true
}

// shuffled returns an order of the numbers from 0 to n-1 that follows no plain
// rule.
func shuffled(n, seed int) []int {
	order, keys := sample.UpTo(n), sample.Mixed(1, n, seed)[0]
	slices.SortStableFunc(order, func(a, b int) int { return keys[a] - keys[b] })
	return order
}

func TestOf(t *testing.T) {
	for _, c := range []struct {
		m    [][]int
		want int
	}{
		{[][]int{{0}}, 0},
		{[][]int{{1}}, 1},
		{[][]int{{9_972}}, 9_972},
		{[][]int{{1, 2}, {3, 4}}, 9_971},
		{[][]int{{3, 4}, {1, 2}}, 2},
		{[][]int{{1, 2}, {2, 4}}, 0},
		{[][]int{{0, 1}, {1, 0}}, 9_972},
		{[][]int{{0, 9_972}, {1, 0}}, 1},
		{[][]int{{9_972, 0}, {0, 9_972}}, 1},
		{[][]int{{9_972, 1}, {1, 9_972}}, 0},
		{[][]int{{0, 2}, {3, 4}}, 9_967},
		{[][]int{{100, 0}, {0, 100}}, 27},
		// The determinant is 9973, and so 0 only modulo Prime.
		{[][]int{{100, 27}, {1, 100}}, 0},
		{[][]int{{0, 0, 1}, {1, 0, 0}, {0, 1, 0}}, 1},
		{[][]int{{0, 0, 2}, {0, 3, 0}, {5, 0, 0}}, 9_943},
		{[][]int{{1, 2, 3}, {4, 5, 6}, {7, 8, 9}}, 0},
		{[][]int{{1, 2, 3}, {4, 5, 6}, {7, 8, 10}}, 9_970},
		{[][]int{{0, 1, 2}, {1, 0, 3}, {4, 5, 0}}, 22},
		{[][]int{{9_972, 0, 0}, {0, 9_972, 0}, {0, 0, 9_972}}, 9_972},
		{[][]int{{0, 0, 0, 1}, {0, 0, 1, 0}, {0, 1, 0, 0}, {1, 0, 0, 0}}, 1},
		{[][]int{{2, 0, 0, 0}, {9, 3, 0, 0}, {8, 7, 5, 0}, {6, 5, 4, 7}}, 210},
		{[][]int{{1, 1, 1, 1, 1}, {1, 2, 4, 8, 16}, {1, 3, 9, 27, 81}, {1, 4, 16, 64, 256}, {1, 5, 25, 125, 625}}, 288},
		{[][]int{{0, 0, 0, 0, 1}, {0, 0, 0, 1, 0}, {0, 0, 1, 0, 0}, {0, 1, 0, 0, 0}, {1, 0, 0, 0, 0}}, 1},
		{[][]int{{0, 1, 0, 0, 0}, {0, 0, 1, 0, 0}, {0, 0, 0, 1, 0}, {0, 0, 0, 0, 1}, {9_972, 0, 0, 0, 0}}, 9_972},
		{[][]int{{4, 1, 1, 1, 1}, {1, 4, 1, 1, 1}, {1, 1, 4, 1, 1}, {1, 1, 1, 4, 1}, {1, 1, 1, 1, 4}}, 648},
	} {
		wantOf(t, c.m, c.want)
		wantDet(t, c.m)
	}
}

func TestPlainMatrices(t *testing.T) {
	for n := 1; n <= 5; n++ {
		wantOf(t, sample.Filled(n, n, 0), 0)
		wantOf(t, sample.Unit(n), 1)
		for _, k := range []int{1, 2, 9_972} {
			want := 0
			if n == 1 {
				want = k
			}
			wantOf(t, sample.Filled(n, n, k), want)
			for i := range n {
				for j := range n {
					wantOf(t, sample.With(n, n, i, j, k), want)
				}
			}
		}
	}
}

func TestAllElements(t *testing.T) {
	for n := range 9_973 {
		wantOf(t, [][]int{{n}}, n)
		wantOf(t, [][]int{{n, 0}, {5, 9_972}}, sample.Element(-n))
		wantOf(t, [][]int{{0, n}, {n, 0}}, sample.Element(-n*n))
		wantOf(t, [][]int{{1, n}, {n, 1}}, sample.Element(1-n*n))
	}
}

// TestAllSizes has matrices without zeros, and with elements of few kinds, of
// which there are more whose determinant is 0.
func TestAllSizes(t *testing.T) {
	for n := 1; n <= 5; n++ {
		for seed := range 200 {
			m := sample.Mixed(n, n, seed)
			wantDet(t, m)
			for _, kinds := range []int{2, 3} {
				for _, row := range m {
					for j := range row {
						row[j] = (row[j]>>4%kinds + 9_972) % 9_973
					}
				}
				wantDet(t, m)
			}
		}
	}
}

// TestFewElements has all matrices of few rows and few different elements.
func TestFewElements(t *testing.T) {
	for _, c := range []struct {
		size     int
		elements []int
	}{
		{1, []int{0, 1, 2, 4_986, 4_987, 9_971, 9_972}},
		{2, []int{0, 1, 2, 4_986, 4_987, 9_971, 9_972}},
		{3, []int{0, 1, 9_972}},
		{4, []int{0, 1}},
	} {
		for m := range sample.All(c.size, c.size, c.elements...) {
			wantDet(t, m)
		}
	}
}

// TestPermutations has one element in each row and column, for all orders of the
// columns: all products of the definition but one are 0.
func TestPermutations(t *testing.T) {
	for n := 1; n <= 5; n++ {
		for seed, order := range sample.OrdersOf(n) {
			numbers := sample.Mixed(1, n, seed)[0]
			plainOnes, others := sample.Filled(n, n, 0), sample.Filled(n, n, 0)
			product := sample.Sign(order)
			for i, j := range order {
				plainOnes[i][j] = 1
				others[i][j] = numbers[i]
				product = product * numbers[i] % 9_973
			}
			wantOf(t, plainOnes, sample.Element(sample.Sign(order)))
			wantOf(t, others, sample.Element(product))
		}
	}
}

// TestForms has matrices of each form and so of each rank, and others of the
// same rank.
func TestForms(t *testing.T) {
	for n := 1; n <= 5; n++ {
		for rank := 0; rank <= n; rank++ {
			for _, pivots := range sample.Subsets(n, rank) {
				for seed := range 10 {
					form, change := sample.Form(pivots, sample.Mixed(n, n, seed)), sample.Invertible(n, seed)
					if rank < n {
						wantOf(t, form, 0)
						wantOf(t, sample.Mul(change, form), 0)
						wantOf(t, sample.Mul(form, change), 0)
					} else {
						wantOf(t, form, 1)
						wantDet(t, sample.Mul(change, form))
					}
				}
			}
		}
		for between := 1; between < n; between++ {
			for seed := range 10 {
				wantOf(t, sample.Mul(sample.Mixed(n, between, seed), sample.Mixed(between, n, seed+30)), 0)
			}
		}
	}
}

// TestTriangles has zeros below or above the diagonal.
func TestTriangles(t *testing.T) {
	for n := 1; n <= 5; n++ {
		for seed := range 20 {
			low, up := sample.Mixed(n, n, seed), sample.Mixed(n, n, seed+100)
			wantLow, wantUp := 1, 1
			for i := range n {
				clear(low[i][i+1:])
				clear(up[i][:i])
				wantLow = wantLow * low[i][i] % 9_973
				wantUp = wantUp * up[i][i] % 9_973
			}
			wantOf(t, low, wantLow)
			wantOf(t, up, wantUp)
			wantOf(t, sample.Mul(low, up), wantLow*wantUp%9_973)
			wantOf(t, sample.Mul(up, low), wantLow*wantUp%9_973)
		}
	}
}

// TestZeroDiagonals has zeros at some or all places of the diagonal, or on the
// diagonal only.
func TestZeroDiagonals(t *testing.T) {
	for n := 1; n <= 5; n++ {
		for seed := range 20 {
			for many := 1; many <= n; many++ {
				for _, zeros := range sample.Subsets(n, many) {
					m, diagonal := sample.Mixed(n, n, seed), sample.Unit(n)
					for _, k := range zeros {
						m[k][k], diagonal[k][k] = 0, 0
					}
					wantDet(t, m)
					wantOf(t, diagonal, 0)
				}
			}
		}
	}
}

// TestProducts multiplies matrices, whose determinants are multiplied as well.
func TestProducts(t *testing.T) {
	for n := 1; n <= 5; n++ {
		for seed := range 50 {
			a, b := sample.Mixed(n, n, seed), sample.Mixed(n, n, seed+100)
			wantOf(t, sample.Mul(a, b), sample.Det(a)*sample.Det(b)%9_973)
		}
	}
}

// TestOrders has the rows of a matrix in all orders.
func TestOrders(t *testing.T) {
	for n := 1; n <= 5; n++ {
		for seed := range 3 {
			m := sample.Mixed(n, n, seed)
			det := sample.Det(m)
			for _, order := range sample.OrdersOf(n) {
				var ordered [][]int
				for _, i := range order {
					ordered = append(ordered, m[i])
				}
				wantOf(t, ordered, sample.Element(sample.Sign(order)*det))
			}
		}
	}
}

// TestEqualRows has a row, or a column, twice.
func TestEqualRows(t *testing.T) {
	for n := 2; n <= 5; n++ {
		for i := range n {
			for k := range i {
				m := sample.Mixed(n, n, i+k)
				m[i] = slices.Clone(m[k])
				wantOf(t, m, 0)
				m = sample.Mixed(n, n, i+k)
				for _, row := range m {
					row[i] = row[k]
				}
				wantOf(t, m, 0)
			}
		}
	}
}

// TestAllDeterminants changes one element, with all the determinants as results,
// Prime-1 among them.
func TestAllDeterminants(t *testing.T) {
	for n := 2; n <= 5; n++ {
		for want := range 9_973 {
			m := sample.Unit(n)
			// With a 1 opposite, the product of these two is taken from 1.
			m[0][n-1], m[n-1][0] = sample.Element(1-want), 1
			wantOf(t, m, want)
		}
	}
}

// TestBad has all lists that are no matrices.
func TestBad(t *testing.T) {
	for m, want := range sample.Bad() {
		wantBad(t, m, want)
	}
}

// TestNotSquare has matrices with more rows than columns and the other way
// round. All other errors come before this one.
func TestNotSquare(t *testing.T) {
	for m, want := range sample.NotSquare() {
		wantBad(t, m, want)
	}
	wantBad(t, sample.Filled(1, 6, 0), api.ErrFull)
	wantBad(t, sample.Filled(6, 5, 0), api.ErrFull)
	wantBad(t, sample.Filled(2, 0, 0), api.ErrNone)
	// As many elements as a square matrix has do not help.
	wantBad(t, [][]int{{1, 2, 3}, {4}}, api.ErrShape)
	wantBad(t, [][]int{{1, 2}, {3, 4}, nil}, api.ErrShape)
	wantBad(t, [][]int{{1, 2}, {3, 4}, {-1, 5}}, api.ErrRange)
}

func TestSign(t *testing.T) {
	for _, c := range []struct {
		order []int
		want  int
	}{
		{nil, 1},
		{[]int{}, 1},
		{[]int{0}, 1},
		{[]int{0, 1}, 1},
		{[]int{1, 0}, -1},
		{[]int{0, 1, 2}, 1},
		{[]int{0, 2, 1}, -1},
		{[]int{1, 0, 2}, -1},
		{[]int{1, 2, 0}, 1},
		{[]int{2, 0, 1}, 1},
		{[]int{2, 1, 0}, -1},
		{[]int{1, 0, 3, 2}, 1},
		{[]int{1, 2, 3, 0}, -1},
		{[]int{3, 2, 1, 0}, 1},
		{[]int{4, 3, 2, 1, 0}, 1},
		{[]int{1, 2, 3, 4, 0}, 1},
		{[]int{5, 4, 3, 2, 1, 0}, -1},
	} {
		wantSign(t, c.order, c.want)
	}
}

func TestSignOfAllOrders(t *testing.T) {
	for n := range 9 {
		for _, order := range sample.OrdersOf(n) {
			wantSign(t, order, sample.Sign(order))
		}
	}
}

// TestSignOfAllLists has all short lists of numbers, of which few are orders.
func TestSignOfAllLists(t *testing.T) {
	for n := range 6 {
		list := make([]int, n)
		var fill func(at int)
		fill = func(at int) {
			if at == n {
				want := 0
				if isOrder(list) {
					want = sample.Sign(list)
				}
				wantSign(t, list, want)
				return
			}
			for k := -1; k <= n; k++ {
				list[at] = k
				fill(at + 1)
			}
		}
		fill(0)
	}
}

// TestSignOfManyNumbers has orders of more numbers than a matrix has rows.
func TestSignOfManyNumbers(t *testing.T) {
	for n := range 120 {
		order := sample.UpTo(n)
		wantSign(t, order, 1)
		for seed := range 10 {
			mixed := shuffled(n, seed)
			wantSign(t, mixed, sample.Sign(mixed))
		}
		slices.Reverse(order)
		wantSign(t, order, sample.Sign(order))
		for k := range n {
			turned := slices.Concat(sample.UpTo(n)[k:], sample.UpTo(n)[:k])
			wantSign(t, turned, sample.Sign(turned))
		}
		for i := range n {
			for _, k := range []int{0, n / 2, n - 1} {
				changed := sample.UpTo(n)
				changed[i], changed[k] = changed[k], changed[i]
				wantSign(t, changed, sample.Sign(changed))
			}
		}
	}
}

// TestSignOfVeryManyNumbers has far more pairs than numbers.
func TestSignOfVeryManyNumbers(t *testing.T) {
	for _, n := range []int{1 << 20, 1<<20 + 1, 1<<20 + 2, 1<<20 + 3} {
		order := sample.UpTo(n)
		if got := Sign(order); got != 1 {
			t.Errorf("the sign of %d ascending numbers is %d", n, got)
		}
		slices.Reverse(order)
		if got, want := Sign(order), 1-n*(n-1)/2%2*2; got != want {
			t.Errorf("the sign of %d descending numbers is %d, want %d", n, got, want)
		}
		turned := append(sample.UpTo(n)[1:], 0)
		if got, want := Sign(turned), 1-(n-1)%2*2; got != want {
			t.Errorf("the sign of %d numbers with the first one last is %d, want %d", n, got, want)
		}
		turned[n-1] = n
		if got := Sign(turned); got != 0 {
			t.Errorf("the sign of the numbers from 1 to %d is %d", n, got)
		}
		turned[n-1] = n - 1
		if got := Sign(turned); got != 0 {
			t.Errorf("the sign of numbers with %d twice is %d", n-1, got)
		}
	}
}

// TestNoOrder has a number at each place that makes a list no order: one that is
// there already, a negative one, or one that is the length or greater.
func TestNoOrder(t *testing.T) {
	for n := 1; n <= 12; n++ {
		wrong := []int{
			-1, -2, -n, -n - 1, n, n + 1, 2 * n, 9_972, 9_973, -9_973, api.MaxNum, -api.MaxNum,
			1 << 32, 1<<32 + 1, -1 << 32, 1 << 62, math.MaxInt, math.MaxInt - 1, math.MinInt, math.MinInt + 1,
		}
		for _, order := range [][]int{sample.UpTo(n), shuffled(n, 1), shuffled(n, 2), shuffled(n, 3)} {
			for i := range n {
				for _, k := range wrong {
					list := slices.Clone(order)
					list[i] = k
					wantSign(t, list, 0)
				}
				for k := range n {
					if list := slices.Clone(order); k != i {
						list[i] = list[k]
						wantSign(t, list, 0)
					}
				}
			}
		}
		for _, k := range append(wrong, sample.UpTo(n)...) {
			want := 0
			if n == 1 && k == 0 {
				want = 1
			}
			wantSign(t, slices.Repeat([]int{k}, n), want)
		}
		// Orders of the numbers from another one on.
		for _, from := range []int{-n, -1, 1, n} {
			list := shuffled(n, 4)
			for i := range list {
				list[i] += from
			}
			wantSign(t, list, 0)
		}
	}
}

// checkArguments calls all functions again and again, and checks that arguments
// stay as they are, with their spare capacity, and results too.
func checkArguments(t *testing.T, m [][]int, order []int) {
	t.Helper()
	// The order is one more row here, so that it is watched as well.
	all := sample.Spacious(append(slices.Clone(m), order))
	before := sample.Whole(all)
	m, order = all[:len(m):len(m)], all[len(m)]
	wantErr, wantSign := Check(m), Sign(order)
	want, _ := Of(m)
	for range 2 {
		got, err := Of(m)
		if got != want || plain.Told(err) != plain.Told(wantErr) {
			t.Fatalf("of %v, the results are first %d, %v and later %d, %v", before, want, wantErr, got, err)
		}
		if err := Check(m); plain.Told(err) != plain.Told(wantErr) {
			t.Fatalf("of %v, the errors are first %v and later %v", before, wantErr, err)
		}
		if got := Sign(order); got != wantSign {
			t.Fatalf("of %v, the signs are first %d and later %d", before, wantSign, got)
		}
	}
	if !sample.Same(sample.Whole(all), before) {
		t.Fatalf("arguments %v became %v", before, sample.Whole(all))
	}
}

func TestArguments(t *testing.T) {
	for rows, columns := range sample.Sizes() {
		for _, order := range [][]int{
			nil, {0}, {1, 0}, {2, 1, 0}, {1, 2, 0}, {0, 0}, {1, 2, 1}, {1, 2, 3}, {-1, 0}, shuffled(rows*columns, 1),
		} {
			checkArguments(t, sample.Mixed(rows, columns, 12), order)
			checkArguments(t, sample.Filled(rows, columns, 0), order)
			checkArguments(t, sample.Filled(rows, columns, 1), order)
			checkArguments(t, sample.Filled(rows, columns, 9_973), order)
		}
	}
	checkArguments(t, nil, nil)
	checkArguments(t, sample.Unit(5), []int{4, 3, 2, 1, 0})
	checkArguments(t, sample.Unit(6), []int{4, 5, 2, 3, 1, 0})
	checkArguments(t, [][]int{{1, 2}, {3}}, []int{1, 0})
}

// TestSharedArguments has rows that are the same memory, or overlap.
func TestSharedArguments(t *testing.T) {
	line := sample.Mixed(1, 12, 14)[0]
	before := slices.Clone(line)
	for range 2 {
		wantDet(t, [][]int{line[:5], line[7:12], line[2:7], line[4:9], line[1:6]})
		wantOf(t, [][]int{line[:5], line[:5], line[2:7], line[7:12], line[1:6]}, 0)
		if !slices.Equal(line, before) {
			t.Fatalf("%v became %v", before, line)
		}
	}
}
