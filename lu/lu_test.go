package lu

import (
	"slices"
	"testing"

	"rankmere/api"
	"rankmere/plain"
	"rankmere/sample"
)

// inOrder returns the rows of m in this order.
func inOrder(m [][]int, order []int) [][]int {
	return sample.Part(m, order, sample.UpTo(len(m)))
}

// orderOf returns the order of the rows without an elimination. What it leaves of
// an element is 0 if the determinant of this row and column is, beside the rows
// that have been subtracted and their columns.
func orderOf(m [][]int) []int {
	order := sample.UpTo(len(m))
	var rows, columns []int
	for c := range m {
		for k := c; k < len(m); k++ {
			part := sample.Part(m, slices.Concat(rows, order[k:k+1]), slices.Concat(columns, []int{c}))
			if sample.Det(part) != 0 {
				order[c], order[k] = order[k], order[c]
				rows, columns = append(rows, order[c]), append(columns, c)
				break
			}
		}
	}
	return order
}

// formed tells whether low and up are what an elimination leaves of this many
// rows: zeros above and below the diagonal, ones on that of low, and no factors in
// a column for which nothing is done.
func formed(low, up [][]int, rows int) bool {
	if len(low) != rows || len(up) != rows {
		return false
	}
	for _, row := range slices.Concat(low, up) {
		if len(row) != rows || slices.Min(row) < 0 || slices.Max(row) > 9_972 {
			return false
		}
	}
	for i := range rows {
		if low[i][i] != 1 {
			return false
		}
		for j := range i {
			if low[j][i] != 0 || up[i][j] != 0 || up[j][j] == 0 && low[i][j] != 0 {
				return false
			}
		}
	}
	return true
}

// wantSplit fails the test unless Split returns this and no error.
func wantSplit(t *testing.T, m [][]int, order []int, low, up [][]int) {
	t.Helper()
	gotOrder, gotLow, gotUp, err := Split(m)
	if !slices.Equal(gotOrder, order) || !sample.Same(gotLow, low) || !sample.Same(gotUp, up) || err != nil {
		t.Fatalf("Split(%v) = %v, %v, %v, %v, want %v, %v, %v", m, gotOrder, gotLow, gotUp, err, order, low, up)
	}
}

// wantParts fails the test unless Split returns the right order, and matrices of
// the right form that have the rows in this order as their product. There is only
// one pair of such matrices.
func wantParts(t *testing.T, m [][]int) {
	t.Helper()
	order, low, up, err := Split(m)
	if want := orderOf(m); !slices.Equal(order, want) || err != nil {
		t.Fatalf("Split(%v) = %v, %v, %v, %v, want the order %v", m, order, low, up, err, want)
	}
	if !formed(low, up, len(m)) {
		t.Fatalf("Split(%v) = %v, %v, %v, which are not of the right form", m, order, low, up)
	}
	if product := sample.Mul(low, up); !sample.Same(product, inOrder(m, order)) {
		t.Fatalf("Split(%v) = %v, %v, %v, whose product is %v", m, order, low, up, product)
	}
}

// wantBad fails the test unless Split returns nothing but this error.
func wantBad(t *testing.T, m [][]int, want api.Errno) {
	t.Helper()
	order, low, up, err := Split(m)
	if len(order) != 0 || len(low) != 0 || len(up) != 0 || plain.Told(err) != want {
		t.Fatalf("Split(%v) = %v, %v, %v, %v, want nothing and %v", m, order, low, up, err, want)
	}
}

func TestSplit(t *testing.T) {
	for _, c := range []struct {
		m       [][]int
		order   []int
		low, up [][]int
	}{
		{[][]int{{0, 1}, {1, 0}}, []int{1, 0}, sample.Unit(2), sample.Unit(2)},
		{[][]int{{0}}, []int{0}, [][]int{{1}}, [][]int{{0}}},
		{[][]int{{2}}, []int{0}, [][]int{{1}}, [][]int{{2}}},
		{[][]int{{9_972}}, []int{0}, [][]int{{1}}, [][]int{{9_972}}},
		{[][]int{{1, 2}, {3, 4}}, []int{0, 1}, [][]int{{1, 0}, {3, 1}}, [][]int{{1, 2}, {0, 9_971}}},
		{[][]int{{3, 4}, {1, 2}}, []int{0, 1}, [][]int{{1, 0}, {6_649, 1}}, [][]int{{3, 4}, {0, 3_325}}},
		{[][]int{{0, 2}, {3, 4}}, []int{1, 0}, sample.Unit(2), [][]int{{3, 4}, {0, 2}}},
		{[][]int{{1, 2}, {2, 4}}, []int{0, 1}, [][]int{{1, 0}, {2, 1}}, [][]int{{1, 2}, {0, 0}}},
		// The second row is a multiple of the first one, but only modulo Prime.
		{[][]int{{100, 27}, {1, 100}}, []int{0, 1}, [][]int{{1, 0}, {6_283, 1}}, [][]int{{100, 27}, {0, 0}}},
		// The first row is taken, not the one with the largest number.
		{[][]int{{1, 0}, {9_972, 1}}, []int{0, 1}, [][]int{{1, 0}, {9_972, 1}}, sample.Unit(2)},
		// Nothing is done for a column of zeros, and the row stays where it is: the
		// one below it is not cleared by it.
		{[][]int{{0, 1}, {0, 2}}, []int{0, 1}, sample.Unit(2), [][]int{{0, 1}, {0, 2}}},
		{[][]int{{0, 0}, {0, 2}}, []int{0, 1}, sample.Unit(2), [][]int{{0, 0}, {0, 2}}},
		{[][]int{{0, 5}, {0, 0}}, []int{0, 1}, sample.Unit(2), [][]int{{0, 5}, {0, 0}}},
		{
			[][]int{{0, 1, 2}, {0, 0, 3}, {0, 4, 5}},
			[]int{0, 2, 1}, sample.Unit(3), [][]int{{0, 1, 2}, {0, 4, 5}, {0, 0, 3}},
		},
		{
			[][]int{{1, 2, 3}, {2, 4, 5}, {3, 6, 7}},
			[]int{0, 1, 2}, [][]int{{1, 0, 0}, {2, 1, 0}, {3, 0, 1}}, [][]int{{1, 2, 3}, {0, 0, 9_972}, {0, 0, 9_971}},
		},
		{
			[][]int{{1, 2, 3}, {4, 5, 6}, {7, 8, 10}},
			[]int{0, 1, 2}, [][]int{{1, 0, 0}, {4, 1, 0}, {7, 2, 1}}, [][]int{{1, 2, 3}, {0, 9_970, 9_967}, {0, 0, 1}},
		},
		// The factors of the last two rows are exchanged with them.
		{
			[][]int{{1, 2, 3}, {2, 4, 7}, {3, 5, 3}},
			[]int{0, 2, 1}, [][]int{{1, 0, 0}, {3, 1, 0}, {2, 0, 1}}, [][]int{{1, 2, 3}, {0, 9_972, 9_967}, {0, 0, 1}},
		},
		// Two rows are exchanged, and those between them stay where they are.
		{
			[][]int{{0, 0, 1}, {0, 1, 0}, {1, 0, 0}},
			[]int{2, 1, 0}, sample.Unit(3), sample.Unit(3),
		},
		{
			[][]int{{0, 0, 3, 1}, {0, 2, 0, 5}, {0, 4, 0, 6}, {1, 1, 1, 1}},
			[]int{3, 1, 0, 2},
			[][]int{{1, 0, 0, 0}, {0, 1, 0, 0}, {0, 0, 1, 0}, {0, 2, 0, 1}},
			[][]int{{1, 1, 1, 1}, {0, 2, 0, 5}, {0, 0, 3, 1}, {0, 0, 0, 9_969}},
		},
		{sample.Filled(3, 3, 0), sample.UpTo(3), sample.Unit(3), sample.Filled(3, 3, 0)},
		{sample.Unit(5), sample.UpTo(5), sample.Unit(5), sample.Unit(5)},
		{
			[][]int{{1, 1, 1, 1, 1}, {1, 2, 2, 2, 2}, {1, 2, 3, 3, 3}, {1, 2, 3, 4, 4}, {1, 2, 3, 4, 5}},
			sample.UpTo(5),
			[][]int{{1, 0, 0, 0, 0}, {1, 1, 0, 0, 0}, {1, 1, 1, 0, 0}, {1, 1, 1, 1, 0}, {1, 1, 1, 1, 1}},
			[][]int{{1, 1, 1, 1, 1}, {0, 1, 1, 1, 1}, {0, 0, 1, 1, 1}, {0, 0, 0, 1, 1}, {0, 0, 0, 0, 1}},
		},
	} {
		wantSplit(t, c.m, c.order, c.low, c.up)
		wantParts(t, c.m)
	}
}

// made returns what Split should return if row c is exchanged with row exchanges[c],
// or if nothing is done for column c, where that is the number of rows.
func made(exchanges []int, seed int) (order []int, low, up [][]int) {
	n := len(exchanges)
	order, low, up = sample.UpTo(n), sample.Mixed(n, n, seed), sample.Mixed(n, n, seed+500)
	for c, k := range exchanges {
		clear(up[c][:c])
		if k < n {
			order[c], order[k] = order[k], order[c]
			low[c], low[k] = low[k], low[c]
			up[c][c] = 1 + up[c][c]%9_972
		} else {
			up[c][c] = 0
		}
		// The rows above row k were 0 in this column, and so are those below row c
		// now, from which nothing is subtracted therefore.
		for i := 0; i < n && i <= k; i++ {
			low[i][c] = 0
		}
		low[c][c] = 1
	}
	return order, low, up
}

// TestAllExchanges has all that may happen in the columns of all sizes.
func TestAllExchanges(t *testing.T) {
	for n := 1; n <= 5; n++ {
		exchanges := make([]int, n)
		var choose func(c int)
		choose = func(c int) {
			if c == n {
				for seed := range 5 {
					order, low, up := made(exchanges, seed)
					m := sample.Filled(n, n, 0)
					for i, row := range sample.Mul(low, up) {
						m[order[i]] = row
					}
					wantSplit(t, m, order, low, up)
					wantParts(t, m)
				}
				return
			}
			for k := c; k <= n; k++ {
				exchanges[c] = k
				choose(c + 1)
			}
		}
		choose(0)
	}
}

// TestSingleElements has one element that is not 0, which is only moved if it is
// below the diagonal.
func TestSingleElements(t *testing.T) {
	for n := 1; n <= 5; n++ {
		for i := range n {
			for j := range n {
				for _, k := range []int{1, 2, 9_972} {
					order, row := sample.UpTo(n), i
					if i > j {
						order[i], order[j] = j, i
						row = j
					}
					wantSplit(t, sample.With(n, n, i, j, k), order, sample.Unit(n), sample.With(n, n, row, j, k))
				}
			}
		}
	}
}

// TestPermutations has one element in each row and column.
func TestPermutations(t *testing.T) {
	for n := 1; n <= 5; n++ {
		for seed, m := range sample.Orders(sample.Unit(n)) {
			order, others, up := make([]int, n), sample.Clone(m), sample.Filled(n, n, 0)
			for i, row := range m {
				j := slices.Index(row, 1)
				order[j] = i
				others[i][j] = 1 + (seed+i)*997%9_972
				up[j][j] = others[i][j]
			}
			wantSplit(t, m, order, sample.Unit(n), sample.Unit(n))
			wantSplit(t, others, order, sample.Unit(n), up)
			wantParts(t, others)
		}
	}
}

// TestAllElements has all elements at all places of two rows.
func TestAllElements(t *testing.T) {
	for n := range 9_973 {
		wantSplit(t, [][]int{{n}}, []int{0}, [][]int{{1}}, [][]int{{n}})
		wantSplit(t, [][]int{{1, 0}, {n, 1}}, []int{0, 1}, [][]int{{1, 0}, {n, 1}}, sample.Unit(2))
		wantSplit(t, [][]int{{1, n}, {0, 1}}, []int{0, 1}, sample.Unit(2), [][]int{{1, n}, {0, 1}})
		for place := range 4 {
			m := [][]int{{5, 7}, {4_000, 9_972}}
			m[place/2][place%2] = n
			wantParts(t, m)
		}
	}
}

// TestFewElements has all matrices of few different elements.
func TestFewElements(t *testing.T) {
	for _, c := range []struct {
		size     int
		elements []int
	}{
		{1, []int{0, 1, 2, 4_986, 4_987, 9_971, 9_972}},
		{2, []int{0, 1, 2, 4_986, 4_987, 9_971, 9_972}},
		{3, []int{0, 1, 9_972}},
		{3, []int{2, 3, 4_987}},
		{4, []int{0, 1}},
	} {
		for m := range sample.All(c.size, c.size, c.elements...) {
			wantParts(t, m)
		}
	}
}

// TestAllSizes has matrices without zeros, and with elements of few kinds, whose
// rows are exchanged more often.
func TestAllSizes(t *testing.T) {
	for n := 1; n <= 5; n++ {
		for seed := range 200 {
			wantParts(t, sample.Mixed(n, n, seed))
			wantParts(t, sample.Invertible(n, seed))
			for most := 1; most <= 3; most++ {
				wantParts(t, sample.Kind{Side: 5, Least: 0, Most: most}.Mixed(n, n, seed))
			}
		}
		for _, k := range []int{0, 1, 2, 4_986, 9_972} {
			wantParts(t, sample.Filled(n, n, k))
		}
	}
}

// TestForms has matrices of all ranks.
func TestForms(t *testing.T) {
	for n := 1; n <= 5; n++ {
		for rank := 0; rank <= n; rank++ {
			for _, pivots := range sample.Subsets(n, rank) {
				for seed := range 5 {
					form, change := sample.Form(pivots, sample.Mixed(n, n, seed)), sample.Invertible(n, seed)
					wantParts(t, form)
					wantParts(t, sample.Mul(change, form))
					wantParts(t, sample.Mul(form, change))
				}
			}
		}
	}
}

// TestOrders has the same rows in all orders.
func TestOrders(t *testing.T) {
	for _, m := range [][][]int{
		sample.Filled(5, 5, 9_972),
		sample.Mixed(5, 5, 1),
		sample.Mixed(4, 4, 1),
		sample.Mul(sample.Mixed(5, 2, 2), sample.Mixed(2, 5, 3)),
		sample.Mul(sample.Mixed(5, 3, 4), sample.Mixed(3, 5, 5)),
		{{0, 1, 2, 3, 4}, {0, 0, 0, 5, 6}, {0, 0, 0, 0, 0}, {0, 2, 4, 6, 8}, {0, 1, 2, 8, 10}},
		{{1, 2, 3, 4, 5}, {2, 4, 6, 8, 1}, {3, 6, 9, 1, 1}, {4, 8, 1, 1, 1}, {5, 1, 1, 1, 1}},
	} {
		for _, ordered := range sample.Orders(m) {
			wantParts(t, ordered)
		}
	}
}

// TestBad has all lists that are no matrices.
func TestBad(t *testing.T) {
	for m, want := range sample.Bad() {
		wantBad(t, m, want)
	}
}

// TestNotSquare has matrices with more rows than columns and the other way round.
// All other errors come before this one.
func TestNotSquare(t *testing.T) {
	for m, want := range sample.NotSquare() {
		wantBad(t, m, want)
	}
}

// checkArguments calls Split, and overwrites the results.
func checkArguments(t *testing.T, m [][]int) {
	t.Helper()
	m = sample.Spacious(m)
	before := sample.Whole(m)
	order, low, up, _ := Split(m)
	wantOrder, wantLow, wantUp := slices.Clone(order), sample.Clone(low), sample.Clone(up)
	same := func(order []int, low, up [][]int) bool {
		return slices.Equal(order, wantOrder) && sample.Same(low, wantLow) && sample.Same(up, wantUp)
	}
	for range 2 {
		nextOrder, nextLow, nextUp, _ := Split(m)
		if !same(nextOrder, nextLow, nextUp) {
			t.Fatalf("of %v, the results are first %v, %v, %v and later %v, %v, %v",
				before, wantOrder, wantLow, wantUp, nextOrder, nextLow, nextUp)
		}
		clear(nextLow[len(nextLow):cap(nextLow)])
		clear(nextUp[len(nextUp):cap(nextUp)])
		if !same(nextOrder, nextLow, nextUp) {
			t.Fatalf("of %v, lists of rows share memory", before)
		}
		if !sample.Spoil(slices.Concat(nextLow, nextUp, [][]int{nextOrder})) {
			t.Fatalf("of %v, rows of a result share memory", before)
		}
		clear(nextLow)
		clear(nextUp)
		if !same(order, low, up) {
			t.Fatalf("of %v, two results share memory", before)
		}
	}
	if !sample.Same(sample.Whole(m), before) {
		t.Fatalf("argument %v became %v", before, sample.Whole(m))
	}
	// What the caller does to the argument later is not seen in the results.
	sample.Spoil(m)
	if !same(order, low, up) {
		t.Fatalf("of %v, results share memory with the argument", before)
	}
}

// TestArguments checks that matrices stay as they are, with their spare capacity,
// whatever is done to the results, and that results depend on nothing else.
func TestArguments(t *testing.T) {
	for rows, columns := range sample.Sizes() {
		for seed := range 10 {
			checkArguments(t, sample.Mixed(rows, columns, seed))
			checkArguments(t, sample.Kind{Side: 5, Least: 0, Most: 1}.Mixed(rows, columns, seed))
		}
		for _, n := range []int{0, 1, 9_972, 9_973} {
			checkArguments(t, sample.Filled(rows, columns, n))
		}
	}
	for _, m := range sample.Orders(sample.Unit(4)) {
		checkArguments(t, m)
	}
	checkArguments(t, nil)
	checkArguments(t, sample.Unit(6))
	checkArguments(t, [][]int{{1, 2}, {3}})
}

// TestSharedArguments has rows that are the same memory, or overlap.
func TestSharedArguments(t *testing.T) {
	line := sample.Mixed(1, 12, 14)[0]
	line[4] = 0
	before := slices.Clone(line)
	for _, m := range [][][]int{
		{line[4:9], line[3:8], line[2:7], line[7:12], line[1:6]},
		{line[:5], line[:5], line[2:7], line[7:12], line[1:6]},
		{line[:3], line[1:4], line[2:5]},
		{line[4:6], line[4:6]},
		{line[:1]},
	} {
		for range 2 {
			wantParts(t, m)
			_, low, up, _ := Split(m)
			if !sample.Spoil(slices.Concat(low, up)) {
				t.Fatal("rows of a result share memory")
			}
			if !slices.Equal(line, before) {
				t.Fatalf("%v became %v", before, line)
			}
		}
	}
}
