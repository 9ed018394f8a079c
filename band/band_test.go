package band

import (
	"slices"
	"testing"

	"rankmere/api"
	"rankmere/plain"
	"rankmere/sample"
)

// matrix is the three lists that all functions take.
type matrix struct{ mid, above, below []int }

// whole returns all elements of a matrix.
func (m matrix) whole() [][]int {
	l := sample.Filled(len(m.mid), len(m.mid), 0)
	for i, n := range m.mid {
		l[i][i] = n
	}
	for i := range len(m.mid) - 1 {
		l[i][i+1], l[i+1][i] = m.above[i], m.below[i]
	}
	return l
}

// lists returns the three lists of a matrix, of which each one can be replaced.
func (m *matrix) lists() []*[]int {
	return []*[]int{&m.mid, &m.above, &m.below}
}

// mixed returns a matrix of this many rows; another seed makes another one.
func mixed(rows, seed int) matrix {
	return matrix{sample.Numbers(rows, 3*seed), sample.Numbers(rows-1, 3*seed+1), sample.Numbers(rows-1, 3*seed+2)}
}

// filled returns a matrix that has the same number everywhere in a list.
func filled(rows, mid, above, below int) matrix {
	return matrix{
		slices.Repeat([]int{mid}, rows), slices.Repeat([]int{above}, rows-1), slices.Repeat([]int{below}, rows-1),
	}
}

// split returns the matrix that has these numbers one after the other.
func split(all []int) matrix {
	rows := len(all)/3 + 1
	return matrix{all[:rows], all[rows : 2*rows-1], all[2*rows-1:]}
}

// wantDet fails the test unless Check has no error, and this is the determinant.
func wantDet(t *testing.T, m matrix, want int) {
	t.Helper()
	if err := Check(m.mid, m.above, m.below); err != nil {
		t.Fatalf("Check of %v = %v", m, err)
	}
	if got, err := Det(m.mid, m.above, m.below); got != want || err != nil {
		t.Fatalf("Det of %v = %d, %v, want %d", m, got, err, want)
	}
}

// wantMul fails the test unless this is the product with x.
func wantMul(t *testing.T, m matrix, x, want []int) {
	t.Helper()
	if got, err := Mul(m.mid, m.above, m.below, x); !slices.Equal(got, want) || err != nil {
		t.Fatalf("Mul of %v, %v = %v, %v, want %v", m, x, got, err, want)
	}
}

// wantFull fails the test unless these are all elements, or unless there are too
// many of them and Full returns nothing.
func wantFull(t *testing.T, m matrix, want [][]int) {
	t.Helper()
	wantErr := api.OK
	if len(m.mid) > 5 {
		want, wantErr = nil, api.ErrFull
	}
	if got, err := Full(m.mid, m.above, m.below); !sample.Same(got, want) || plain.Told(err) != wantErr {
		t.Fatalf("Full of %v = %v, %v, want %v, %v", m, got, err, want, wantErr)
	}
}

// wantAll fails the test unless all functions return what is computed from all
// elements.
func wantAll(t *testing.T, m matrix, x []int) {
	t.Helper()
	whole := m.whole()
	wantDet(t, m, sample.Det(whole))
	wantMul(t, m, x, slices.Concat(sample.Mul(whole, sample.Turned([][]int{x}))...))
	wantFull(t, m, whole)
}

// wantMulError fails the test unless Mul returns nothing but this error.
func wantMulError(t *testing.T, m matrix, x []int, want api.Errno) {
	t.Helper()
	if got, err := Mul(m.mid, m.above, m.below, x); len(got) != 0 || plain.Told(err) != want {
		t.Fatalf("Mul of %v, %v = %v, %v, want nothing and %v", m, x, got, err, want)
	}
}

// wantBad fails the test unless all functions return nothing but this error of m,
// whatever x is.
func wantBad(t *testing.T, m matrix, want api.Errno) {
	t.Helper()
	if err := Check(m.mid, m.above, m.below); plain.Told(err) != want {
		t.Fatalf("Check of %v = %v, want %v", m, err, want)
	}
	if got, err := Det(m.mid, m.above, m.below); got != 0 || plain.Told(err) != want {
		t.Fatalf("Det of %v = %d, %v, want 0 and %v", m, got, err, want)
	}
	if got, err := Full(m.mid, m.above, m.below); len(got) != 0 || plain.Told(err) != want {
		t.Fatalf("Full of %v = %v, %v, want nothing and %v", m, got, err, want)
	}
	for _, x := range [][]int{
		nil, make([]int, len(m.mid)), make([]int, len(m.mid)+1), slices.Repeat([]int{9_973}, len(m.mid)), {-1},
	} {
		wantMulError(t, m, x, want)
	}
}

func TestDet(t *testing.T) {
	for _, c := range []struct {
		m    matrix
		want int
	}{
		{matrix{[]int{1, 2}, []int{3}, []int{4}}, 9_963},
		{matrix{[]int{5}, nil, nil}, 5},
		{matrix{[]int{0}, []int{}, []int{}}, 0},
		{matrix{[]int{9_972}, nil, nil}, 9_972},
		{matrix{[]int{0, 0}, []int{1}, []int{1}}, 9_972},
		{matrix{[]int{0, 0}, []int{9_972}, []int{1}}, 1},
		{matrix{[]int{0, 0}, []int{1}, []int{0}}, 0},
		{matrix{[]int{1, 1}, []int{0}, []int{1}}, 1},
		{matrix{[]int{1, 1}, []int{1}, []int{1}}, 0},
		{matrix{[]int{100, 100}, []int{0}, []int{0}}, 27},
		// The determinant is 9973, and so 0 only modulo Prime.
		{matrix{[]int{100, 100}, []int{27}, []int{1}}, 0},
		{matrix{[]int{1, 2, 3}, []int{4, 5}, []int{6, 7}}, 9_872},
		{matrix{[]int{0, 2, 0}, []int{3, 4}, []int{5, 6}}, 0},
		{matrix{[]int{0, 0, 2}, []int{3, 4}, []int{5, 6}}, 9_943},
		{matrix{[]int{2, 0, 0}, []int{3, 4}, []int{5, 6}}, 9_925},
		{matrix{[]int{0, 0, 0, 0}, []int{2, 3, 5}, []int{7, 11, 13}}, 910},
		{matrix{[]int{1, 1, 1, 1}, []int{1, 1, 1}, []int{1, 1, 1}}, 9_972},
		{matrix{[]int{2, 3, 5, 7, 11}, []int{0, 0, 0, 0}, []int{9, 9, 9, 9}}, 2_310},
		{matrix{[]int{2, 3, 5, 7, 11}, []int{9, 9, 9, 9}, []int{0, 0, 0, 0}}, 2_310},
	} {
		wantDet(t, c.m, c.want)
		wantAll(t, c.m, sample.Numbers(len(c.m.mid), 1))
	}
}

// TestSequences has determinants that follow a rule when rows are added.
func TestSequences(t *testing.T) {
	fibonacci := []int{1, 2, 3, 5, 8, 13, 21, 34, 55, 89}
	for i, want := range fibonacci {
		rows := i + 1
		wantDet(t, filled(rows, 1, 9_972, 1), want)
		wantDet(t, filled(rows, 1, 1, 9_972), want)
		wantDet(t, filled(rows, 2, 9_972, 9_972), rows+1)
		wantDet(t, filled(rows, 2, 1, 1), rows+1)
		wantDet(t, filled(rows, 1, 1, 1), []int{1, 0, 9_972, 9_972, 0, 1}[i%6])
		wantDet(t, filled(rows, 0, 1, 1), []int{0, 9_972, 0, 1}[i%4])
		wantDet(t, filled(rows, 9_972, 9_972, 9_972), []int{9_972, 0, 1, 9_972, 0, 1}[i%6])
		wantDet(t, filled(rows, 3, 2, 1), 2<<rows-1)
		wantDet(t, filled(rows, 1, 0, 0), 1)
		wantDet(t, filled(rows, 0, 0, 0), 0)
	}
}

func TestMul(t *testing.T) {
	for _, c := range []struct {
		m       matrix
		x, want []int
	}{
		{matrix{[]int{1, 2}, []int{3}, []int{4}}, []int{1, 1}, []int{4, 6}},
		{matrix{[]int{1, 2}, []int{3}, []int{4}}, []int{1, 0}, []int{1, 4}},
		{matrix{[]int{1, 2}, []int{3}, []int{4}}, []int{0, 1}, []int{3, 2}},
		{matrix{[]int{5}, nil, nil}, []int{7}, []int{35}},
		{matrix{[]int{5}, nil, nil}, []int{0}, []int{0}},
		{matrix{[]int{9_972}, nil, nil}, []int{9_972}, []int{1}},
		{matrix{[]int{9_972}, nil, nil}, []int{1}, []int{9_972}},
		{matrix{[]int{1, 9_972}, []int{1}, []int{1}}, []int{9_972, 1}, []int{0, 9_971}},
		{matrix{[]int{1, 2, 3}, []int{4, 5}, []int{6, 7}}, []int{1, 10, 100}, []int{41, 526, 370}},
		{matrix{[]int{1, 2, 3, 4}, []int{5, 6, 7}, []int{8, 9, 1}}, []int{1, 1, 1, 1}, []int{6, 16, 19, 5}},
		{matrix{[]int{0, 0, 0, 0}, []int{1, 1, 1}, []int{0, 0, 0}}, []int{5, 6, 7, 8}, []int{6, 7, 8, 0}},
		{matrix{[]int{0, 0, 0, 0}, []int{0, 0, 0}, []int{1, 1, 1}}, []int{5, 6, 7, 8}, []int{0, 5, 6, 7}},
		{
			filled(10, 1, 100, 9_972), []int{1, 2, 3, 4, 5, 6, 7, 8, 9, 10},
			[]int{201, 301, 401, 501, 601, 701, 801, 901, 1_001, 1},
		},
	} {
		wantMul(t, c.m, c.x, c.want)
		wantAll(t, c.m, c.x)
	}
}

func TestFull(t *testing.T) {
	for _, c := range []struct {
		m    matrix
		want [][]int
	}{
		{matrix{[]int{1, 2}, []int{3}, []int{4}}, [][]int{{1, 3}, {4, 2}}},
		{matrix{[]int{5}, nil, nil}, [][]int{{5}}},
		{matrix{[]int{0}, nil, nil}, [][]int{{0}}},
		{matrix{[]int{1, 2, 3}, []int{4, 5}, []int{6, 7}}, [][]int{{1, 4, 0}, {6, 2, 5}, {0, 7, 3}}},
		{
			matrix{[]int{1, 2, 3, 4}, []int{5, 6, 7}, []int{8, 9, 10}},
			[][]int{{1, 5, 0, 0}, {8, 2, 6, 0}, {0, 9, 3, 7}, {0, 0, 10, 4}},
		},
		{
			matrix{[]int{1, 2, 3, 4, 5}, []int{6, 7, 8, 9_972}, []int{10, 11, 12, 13}},
			[][]int{{1, 6, 0, 0, 0}, {10, 2, 7, 0, 0}, {0, 11, 3, 8, 0}, {0, 0, 12, 4, 9_972}, {0, 0, 0, 13, 5}},
		},
	} {
		wantFull(t, c.m, c.want)
		wantAll(t, c.m, sample.Numbers(len(c.m.mid), 2))
	}
}

// TestTooManyRows has matrices with more rows than Full may return, but not more
// than the other functions take.
func TestTooManyRows(t *testing.T) {
	for rows := 6; rows <= 10; rows++ {
		for _, m := range []matrix{mixed(rows, 1), filled(rows, 0, 0, 0), filled(rows, 1, 0, 0), filled(rows, 9_972, 9_972, 9_972)} {
			if got, err := Full(m.mid, m.above, m.below); len(got) != 0 || plain.Told(err) != api.ErrFull {
				t.Fatalf("Full of %v = %v, %v, want nothing and %v", m, got, err, api.ErrFull)
			}
			wantAll(t, m, sample.Numbers(rows, 3))
		}
	}
}

// TestAllSizes has matrices without zeros, and with elements of few kinds.
func TestAllSizes(t *testing.T) {
	for rows := 1; rows <= 10; rows++ {
		for seed := range 50 {
			m, x := mixed(rows, seed), sample.Numbers(rows, seed+200)
			wantAll(t, m, x)
			for _, kinds := range []int{2, 3} {
				few := split(slices.Concat(m.mid, m.above, m.below))
				for _, l := range few.lists() {
					for i, n := range *l {
						(*l)[i] = (n>>4%kinds + 9_972) % 9_973
					}
				}
				wantAll(t, few, x)
			}
		}
		wantAll(t, filled(rows, 9_972, 9_972, 9_972), slices.Repeat([]int{9_972}, rows))
		wantAll(t, filled(rows, 0, 0, 0), sample.Numbers(rows, 4))
	}
}

// TestFewElements has all matrices of few rows and few different elements.
func TestFewElements(t *testing.T) {
	for _, c := range []struct {
		rows     int
		elements []int
	}{
		{1, []int{0, 1, 2, 4_986, 4_987, 9_971, 9_972}},
		{2, []int{0, 1, 2, 4_986, 4_987, 9_971, 9_972}},
		{3, []int{0, 1, 9_972}},
		{4, []int{0, 1}},
	} {
		for all := range sample.All(1, 3*c.rows-2, c.elements...) {
			wantAll(t, split(all[0]), sample.Numbers(c.rows, 5))
		}
	}
}

// TestAllElements has all elements at all kinds of places.
func TestAllElements(t *testing.T) {
	for n := range 9_973 {
		wantDet(t, filled(1, n, 0, 0), n)
		wantFull(t, filled(1, n, 0, 0), [][]int{{n}})
		wantMul(t, filled(1, n, 0, 0), []int{1}, []int{n})
		wantMul(t, filled(1, 9_972, 0, 0), []int{n}, []int{sample.Element(-n)})
		wantDet(t, matrix{[]int{0, 0}, []int{n}, []int{1}}, sample.Element(-n))
		wantDet(t, matrix{[]int{0, 0}, []int{1}, []int{n}}, sample.Element(-n))
		wantAll(t, matrix{[]int{1, n}, []int{n}, []int{n}}, []int{n, 9_972})
		wantDet(t, matrix{[]int{n, 1, n}, []int{1, 0}, []int{n, 1}}, 0)
		// These are all determinants that there may be.
		wantDet(t, matrix{[]int{1, 1, 1}, []int{1, 0}, []int{sample.Element(1 - n), 0}}, n)
	}
}

// TestSingleElements has one element that is not 0, at all places.
func TestSingleElements(t *testing.T) {
	for rows := 1; rows <= 10; rows++ {
		for place := range 3*rows - 2 {
			for _, n := range []int{1, 2, 9_972} {
				all := make([]int, 3*rows-2)
				all[place] = n
				wantAll(t, split(all), sample.Numbers(rows, place))
				wantAll(t, split(all), slices.Repeat([]int{9_972}, rows))
			}
		}
	}
}

// TestSingleNumbers multiplies with all columns of the identity matrix, which
// gives those of the matrix, and with all edges at all places.
func TestSingleNumbers(t *testing.T) {
	for rows := 1; rows <= 10; rows++ {
		m := mixed(rows, 6)
		columns := sample.Turned(m.whole())
		for i, x := range sample.Unit(rows) {
			wantMul(t, m, x, columns[i])
			for _, n := range []int{0, 1, 2, 4_986, 9_971, 9_972} {
				x := sample.Numbers(rows, 7)
				x[i] = n
				wantAll(t, m, x)
			}
		}
		wantMul(t, m, make([]int, rows), make([]int, rows))
		wantMul(t, filled(rows, 1, 0, 0), sample.Numbers(rows, 8), sample.Numbers(rows, 8))
	}
}

// TestBlocks has zeros on both sides of the diagonal at all choices of places, so
// that the determinants of the parts between them are multiplied.
func TestBlocks(t *testing.T) {
	for rows := 2; rows <= 10; rows++ {
		for cuts := range 1 << (rows - 1) {
			m := mixed(rows, cuts)
			want, from := 1, 0
			for i := range rows {
				if i == rows-1 || cuts>>i&1 == 1 {
					part := matrix{m.mid[from : i+1], m.above[from:i], m.below[from:i]}
					want = want * sample.Det(part.whole()) % 9_973
					from = i + 1
				}
			}
			for i := range rows - 1 {
				if cuts>>i&1 == 1 {
					// A zero on one side is enough.
					[][]int{m.above, m.below}[i%2][i] = 0
				}
			}
			wantDet(t, m, want)
		}
	}
}

// TestTurned has above and below exchanged, and the rows and columns backwards.
func TestTurned(t *testing.T) {
	for rows := 1; rows <= 10; rows++ {
		for seed := range 20 {
			m := mixed(rows, seed)
			det, err := Det(m.mid, m.above, m.below)
			if err != nil {
				t.Fatalf("Det of %v has error %v", m, err)
			}
			wantDet(t, matrix{m.mid, m.below, m.above}, det)
			for _, l := range m.lists() {
				slices.Reverse(*l)
			}
			wantDet(t, m, det)
		}
	}
}

// TestEmpty has no diagonal. That comes before what else there is.
func TestEmpty(t *testing.T) {
	others := [][]int{nil, {}, {0}, {1, 2}, {-1}, {9_973, 9_973}, make([]int, 10), make([]int, 11), make([]int, 1_000)}
	for _, mid := range [][]int{nil, {}, make([]int, 5)[:0]} {
		for _, above := range others {
			for _, below := range others {
				wantBad(t, matrix{mid, above, below}, api.ErrNone)
			}
		}
	}
}

// TestTooLong has too many elements on the diagonal. That comes before what they
// are, and before how many others there are.
func TestTooLong(t *testing.T) {
	for _, rows := range []int{11, 12, 13, 20, 100, 1_000} {
		for _, n := range []int{0, 1, 9_972, -1, 9_973} {
			m := filled(rows, n, n, n)
			wantBad(t, m, api.ErrFull)
			wantBad(t, filled(rows, n, 1, 1), api.ErrFull)
			wantBad(t, filled(rows, 1, n, n), api.ErrFull)
			for _, length := range []int{0, 1, 5, 9, 10, rows - 2, rows, rows + 1} {
				l := slices.Repeat([]int{n}, length)
				wantBad(t, matrix{m.mid, l, m.below}, api.ErrFull)
				wantBad(t, matrix{m.mid, m.above, l}, api.ErrFull)
				wantBad(t, matrix{m.mid, l, l}, api.ErrFull)
			}
		}
	}
}

// TestShape has too few or too many elements above the diagonal, below it, or at
// both places. That comes before what all of them are.
func TestShape(t *testing.T) {
	for rows := 1; rows <= 10; rows++ {
		for _, n := range []int{0, 1, 9_972, -1, 9_973} {
			for _, length := range []int{0, 1, 2, 3, 4, 5, 6, 7, 8, 9, 10, 11, 12, 1_000} {
				if length == rows-1 {
					continue
				}
				for _, m := range []matrix{mixed(rows, 1), filled(rows, n, n, n), filled(rows, n, 0, 0), filled(rows, 0, n, n)} {
					l := slices.Repeat([]int{n}, length)
					wantBad(t, matrix{m.mid, l, m.below}, api.ErrShape)
					wantBad(t, matrix{m.mid, m.above, l}, api.ErrShape)
					wantBad(t, matrix{m.mid, l, l}, api.ErrShape)
					// Two wrong lengths do not make up for each other.
					if twice := 2*(rows-1) - length; twice >= 0 {
						other := slices.Repeat([]int{n}, twice)
						wantBad(t, matrix{m.mid, l, other}, api.ErrShape)
					}
				}
			}
		}
		// Spare capacity does not count.
		m := mixed(rows, 2)
		if rows > 1 {
			wantBad(t, matrix{m.mid, m.above[:rows-2], m.below}, api.ErrShape)
			wantBad(t, matrix{m.mid, m.above, m.below[:rows-2]}, api.ErrShape)
			wantBad(t, matrix{m.mid[:rows-1], m.above, m.below}, api.ErrShape)
		}
	}
	wantBad(t, matrix{[]int{1}, []int{1}, nil}, api.ErrShape)
	wantBad(t, matrix{[]int{1}, nil, []int{1}}, api.ErrShape)
	wantBad(t, matrix{[]int{1, 2}, []int{3}, nil}, api.ErrShape)
	wantBad(t, matrix{[]int{1, 2}, nil, []int{3}}, api.ErrShape)
}

// TestRange has a number that is no element at each place.
func TestRange(t *testing.T) {
	for rows := 1; rows <= 10; rows++ {
		for k := range 3 {
			for _, m := range []matrix{mixed(rows, 3), filled(rows, 0, 0, 0), filled(rows, 1, 1, 1)} {
				l := *m.lists()[k]
				for i, before := range l {
					for _, n := range sample.Outside() {
						l[i] = n
						wantBad(t, m, api.ErrRange)
					}
					l[i] = before
				}
			}
		}
		for _, n := range sample.Outside() {
			wantBad(t, filled(rows, n, n, n), api.ErrRange)
		}
	}
}

// TestVectorShape has too few or too many elements in x. That comes before what
// they are.
func TestVectorShape(t *testing.T) {
	for rows := 1; rows <= 10; rows++ {
		for _, m := range []matrix{mixed(rows, 4), filled(rows, 0, 0, 0), filled(rows, 1, 0, 0)} {
			for _, length := range []int{0, 1, 2, 3, 4, 5, 6, 7, 8, 9, 10, 11, 12, 13, 1_000} {
				if length == rows {
					continue
				}
				for _, n := range []int{0, 1, 9_972, -1, 9_973} {
					wantMulError(t, m, slices.Repeat([]int{n}, length), api.ErrShape)
				}
			}
			wantMulError(t, m, make([]int, rows)[:rows-1], api.ErrShape)
			wantMulError(t, m, nil, api.ErrShape)
		}
	}
}

// TestVectorRange has a number that is no element at each place of x.
func TestVectorRange(t *testing.T) {
	for rows := 1; rows <= 10; rows++ {
		for i := range rows {
			for _, n := range sample.Outside() {
				for _, m := range []matrix{mixed(rows, 5), filled(rows, 0, 0, 0), filled(rows, 1, 0, 0)} {
					x := sample.Numbers(rows, 9)
					x[i] = n
					wantMulError(t, m, x, api.ErrRange)
					wantMulError(t, m, sample.With(1, rows, 0, i, n)[0], api.ErrRange)
				}
			}
		}
	}
}

// outcome is what all functions return, with the numbers of errors.
type outcome struct {
	det           int
	product       []int
	full          [][]int
	check, detErr api.Errno
	mulErr        api.Errno
	fullErr       api.Errno
}

// outcomeOf calls all functions.
func outcomeOf(mid, above, below, x []int) outcome {
	det, detErr := Det(mid, above, below)
	product, mulErr := Mul(mid, above, below, x)
	full, fullErr := Full(mid, above, below)
	return outcome{
		det, product, full,
		plain.Told(Check(mid, above, below)), plain.Told(detErr), plain.Told(mulErr), plain.Told(fullErr),
	}
}

// is tells whether two outcomes are equal.
func (o outcome) is(other outcome) bool {
	return o.det == other.det && slices.Equal(o.product, other.product) && sample.Same(o.full, other.full) &&
		o.check == other.check && o.detErr == other.detErr && o.mulErr == other.mulErr && o.fullErr == other.fullErr
}

// rows returns the slices of an outcome, in their own memory.
func (o outcome) rows() [][]int {
	return append(o.full[:len(o.full):len(o.full)], o.product)
}

// checkArguments calls all functions again and again, and checks that arguments
// stay as they are, with their spare capacity, and that results do so whatever is
// done to other results and to the arguments.
func checkArguments(t *testing.T, m matrix, x []int) {
	t.Helper()
	all := sample.Spacious([][]int{m.mid, m.above, m.below, x})
	before := sample.Whole(all)
	first := outcomeOf(all[0], all[1], all[2], all[3])
	want := first
	want.product, want.full = slices.Clone(first.product), sample.Clone(first.full)
	for range 2 {
		next := outcomeOf(all[0], all[1], all[2], all[3])
		if !next.is(want) {
			t.Fatalf("of %v, the results are first %v and later %v", before, want, next)
		}
		if !sample.Spoil(next.rows()) {
			t.Fatalf("of %v, results share memory", before)
		}
		clear(next.full[:cap(next.full)])
		if !first.is(want) {
			t.Fatalf("of %v, two results share memory", before)
		}
	}
	if !sample.Same(sample.Whole(all), before) {
		t.Fatalf("arguments %v became %v", before, sample.Whole(all))
	}
	sample.Spoil(all)
	if !first.is(want) {
		t.Fatalf("of %v, results share memory with the arguments", before)
	}
}

func TestArguments(t *testing.T) {
	for rows := 1; rows <= 12; rows++ {
		for _, x := range [][]int{
			nil, make([]int, rows), sample.Numbers(rows, 1), sample.Numbers(rows+1, 2), slices.Repeat([]int{9_973}, rows),
		} {
			for _, m := range []matrix{mixed(rows, 6), filled(rows, 0, 0, 0), filled(rows, 1, 0, 0), filled(rows, 1, -1, 9_973)} {
				checkArguments(t, m, x)
				checkArguments(t, matrix{m.mid, m.mid, m.below}, x)
				checkArguments(t, matrix{m.above, m.above, m.below}, x)
			}
		}
	}
	checkArguments(t, matrix{}, nil)
	checkArguments(t, matrix{mid: []int{1}}, []int{1})
}

// TestSharedArguments has lists that are the same memory as others, or as x, or
// overlap.
func TestSharedArguments(t *testing.T) {
	line := sample.Numbers(12, 10)
	before := slices.Clone(line)
	for range 2 {
		for rows := 1; rows <= 10; rows++ {
			wantAll(t, matrix{line[:rows], line[:rows-1], line[:rows-1]}, line[:rows])
			wantAll(t, matrix{line[1 : rows+1], line[:rows-1], line[2 : rows+1]}, line[2:rows+2])
		}
		if !slices.Equal(line, before) {
			t.Fatalf("%v became %v", before, line)
		}
	}
}

// TestRowsOf checks the part of each row that is kept, and that there is nothing
// beside the matrix.
func TestRowsOf(t *testing.T) {
	got := rowsOf([]int{1, 2, 3}, []int{4, 5}, []int{6, 7})
	if want := [10]row{{0, 1, 4}, {6, 2, 5}, {7, 3, 0}}; got != want {
		t.Errorf("the rows are %v, want %v", got, want)
	}
	if got, want := rowsOf([]int{1}, nil, nil), ([10]row{{0, 1, 0}}); got != want {
		t.Errorf("the rows are %v, want %v", got, want)
	}
}
