package mat

import (
	"math"
	"slices"
	"testing"

	"rankmere/api"
	"rankmere/plain"
	"rankmere/sample"
)

// edges are elements at their limits, and some others of all sizes.
var edges = []int{
	0, 1, 2, 3, 5, 99, 100, 1_234, 4_986, 4_987, 5_678, 8_191, 9_970, 9_971, 9_972,
}

// badExponents are numbers that are no exponents.
var badExponents = []int{
	-1, -2, -1_000, -1_001, 1_001, 1_002, 1_024, 9_972, api.MaxNum, 1 << 32, 1<<32 + 1, -1 << 32, math.MaxInt, math.MinInt,
}

// badSizes are numbers of rows that no identity matrix may have.
var badSizes = []int{
	0, -1, -2, -5, -6, 6, 7, 10, 1_000, api.MaxNum, 1 << 32, 1<<32 + 1, -1 << 32, math.MaxInt, math.MinInt,
}

// wantAdd fails the test unless Add returns this and no error.
func wantAdd(t *testing.T, a, b, want [][]int) {
	t.Helper()
	if got, err := Add(a, b); !sample.Same(got, want) || err != nil {
		t.Fatalf("Add(%v, %v) = %v, %v, want %v", a, b, got, err, want)
	}
}

// wantMul fails the test unless Mul returns this and no error.
func wantMul(t *testing.T, a, b, want [][]int) {
	t.Helper()
	if got, err := Mul(a, b); !sample.Same(got, want) || err != nil {
		t.Fatalf("Mul(%v, %v) = %v, %v, want %v", a, b, got, err, want)
	}
}

// wantTurn fails the test unless Turn returns this and no error.
func wantTurn(t *testing.T, m, want [][]int) {
	t.Helper()
	if got, err := Turn(m); !sample.Same(got, want) || err != nil {
		t.Fatalf("Turn(%v) = %v, %v, want %v", m, got, err, want)
	}
}

// wantPow fails the test unless Pow returns this and no error.
func wantPow(t *testing.T, m [][]int, n int, want [][]int) {
	t.Helper()
	if got, err := Pow(m, n); !sample.Same(got, want) || err != nil {
		t.Fatalf("Pow(%v, %d) = %v, %v, want %v", m, n, got, err, want)
	}
}

// wantAddError fails the test unless Add returns nothing but this error.
func wantAddError(t *testing.T, a, b [][]int, want api.Errno) {
	t.Helper()
	if got, err := Add(a, b); len(got) != 0 || plain.Told(err) != want {
		t.Fatalf("Add(%v, %v) = %v, %v, want nothing and %v", a, b, got, err, want)
	}
}

// wantMulError fails the test unless Mul returns nothing but this error.
func wantMulError(t *testing.T, a, b [][]int, want api.Errno) {
	t.Helper()
	if got, err := Mul(a, b); len(got) != 0 || plain.Told(err) != want {
		t.Fatalf("Mul(%v, %v) = %v, %v, want nothing and %v", a, b, got, err, want)
	}
}

// wantPowError fails the test unless Pow returns nothing but this error.
func wantPowError(t *testing.T, m [][]int, n int, want api.Errno) {
	t.Helper()
	if got, err := Pow(m, n); len(got) != 0 || plain.Told(err) != want {
		t.Fatalf("Pow(%v, %d) = %v, %v, want nothing and %v", m, n, got, err, want)
	}
}

// wantBad fails the test unless all functions that take a matrix return nothing
// but this error, with good matrices and exponents beside m, and with others.
func wantBad(t *testing.T, m [][]int, want api.Errno) {
	t.Helper()
	if err := Check(m); plain.Told(err) != want {
		t.Fatalf("Check(%v) = %v, want %v", m, err, want)
	}
	if got, err := Turn(m); len(got) != 0 || plain.Told(err) != want {
		t.Fatalf("Turn(%v) = %v, %v, want nothing and %v", m, got, err, want)
	}
	for _, n := range []int{0, 1, 2, 1_000, -1, 1_001, math.MaxInt, math.MinInt} {
		wantPowError(t, m, n, want)
	}
	for _, good := range [][][]int{{{1}}, {{1, 2}}, {{1}, {2}}, sample.Unit(2), sample.Unit(5)} {
		wantAddError(t, m, good, want)
		wantAddError(t, good, m, want)
		wantMulError(t, m, good, want)
		wantMulError(t, good, m, want)
	}
	for _, bad := range [][][]int{m, nil, {nil}, {{1, 2}, {3}}, {{-1}}, sample.Filled(6, 1, 1)} {
		wantAddError(t, m, bad, want)
		wantMulError(t, m, bad, want)
	}
}

// wantGood fails the test unless Check has no error for a matrix.
func wantGood(t *testing.T, m [][]int) {
	t.Helper()
	if err := Check(m); err != nil {
		t.Fatalf("Check(%v) = %v", m, err)
	}
}

func TestCheck(t *testing.T) {
	wantGood(t, [][]int{{0}})
	wantGood(t, [][]int{{9_972}})
	wantGood(t, [][]int{{1, 2}, {3, 4}})
	for rows, columns := range sample.Sizes() {
		wantGood(t, sample.Filled(rows, columns, 0))
		wantGood(t, sample.Filled(rows, columns, 9_972))
		wantGood(t, sample.Mixed(rows, columns, 1))
		for i := range rows {
			for j := range columns {
				wantGood(t, sample.With(rows, columns, i, j, 9_972))
			}
		}
	}
	for n := range 9_973 {
		wantGood(t, [][]int{{n}})
	}
}

func TestAdd(t *testing.T) {
	for _, c := range []struct{ a, b, want [][]int }{
		{[][]int{{1}}, [][]int{{2}}, [][]int{{3}}},
		{[][]int{{0}}, [][]int{{0}}, [][]int{{0}}},
		{[][]int{{9_972}}, [][]int{{0}}, [][]int{{9_972}}},
		{[][]int{{9_972}}, [][]int{{1}}, [][]int{{0}}},
		{[][]int{{9_972}}, [][]int{{9_972}}, [][]int{{9_971}}},
		{[][]int{{1, 2}}, [][]int{{3, 4}}, [][]int{{4, 6}}},
		{[][]int{{1}, {2}}, [][]int{{3}, {4}}, [][]int{{4}, {6}}},
		{[][]int{{1, 2}, {3, 4}}, [][]int{{50, 60}, {70, 80}}, [][]int{{51, 62}, {73, 84}}},
		{[][]int{{1, 2, 3}, {4, 5, 6}}, [][]int{{9_972, 0, 1}, {9_970, 4_000, 9_966}}, [][]int{{0, 2, 4}, {1, 4_005, 9_972}}},
		{[][]int{{1, 2}, {3, 4}, {5, 6}}, [][]int{{6, 5}, {4, 3}, {2, 1}}, sample.Filled(3, 2, 7)},
		{sample.Filled(5, 5, 9_972), sample.Filled(5, 5, 9_972), sample.Filled(5, 5, 9_971)},
		{sample.Filled(5, 5, 9_972), sample.Filled(5, 5, 1), sample.Filled(5, 5, 0)},
	} {
		wantAdd(t, c.a, c.b, c.want)
		wantAdd(t, c.b, c.a, c.want)
	}
}

func TestAddOfAllSizes(t *testing.T) {
	for rows, columns := range sample.Sizes() {
		for seed := range 50 {
			a, b := sample.Mixed(rows, columns, seed), sample.Mixed(rows, columns, seed+1_000)
			want := sample.Filled(rows, columns, 0)
			for i := range rows {
				for j := range columns {
					want[i][j] = (a[i][j] + b[i][j]) % 9_973
				}
			}
			wantAdd(t, a, b, want)
			wantAdd(t, b, a, want)
			wantAdd(t, a, sample.Filled(rows, columns, 0), a)
			wantAdd(t, sample.Filled(rows, columns, 0), a, a)
		}
	}
}

func TestAddOfEdges(t *testing.T) {
	for _, a := range edges {
		for _, b := range edges {
			wantAdd(t, [][]int{{a}}, [][]int{{b}}, [][]int{{(a + b) % 9_973}})
		}
	}
}

func TestMul(t *testing.T) {
	for _, c := range []struct{ a, b, want [][]int }{
		{[][]int{{1, 2}}, [][]int{{3}, {4}}, [][]int{{11}}},
		{[][]int{{3}, {4}}, [][]int{{1, 2}}, [][]int{{3, 6}, {4, 8}}},
		{[][]int{{0}}, [][]int{{9_972}}, [][]int{{0}}},
		{[][]int{{9_972}}, [][]int{{9_972}}, [][]int{{1}}},
		{[][]int{{100, 200}}, [][]int{{300}, {400}}, [][]int{{297}}},
		{[][]int{{1, 2}, {3, 4}}, [][]int{{5, 6}, {7, 8}}, [][]int{{19, 22}, {43, 50}}},
		{[][]int{{5, 6}, {7, 8}}, [][]int{{1, 2}, {3, 4}}, [][]int{{23, 34}, {31, 46}}},
		{[][]int{{1, 2, 3}, {4, 5, 6}}, [][]int{{7, 8}, {9, 10}, {11, 12}}, [][]int{{58, 64}, {139, 154}}},
		{[][]int{{7, 8}, {9, 10}, {11, 12}}, [][]int{{1, 2, 3}, {4, 5, 6}}, [][]int{{39, 54, 69}, {49, 68, 87}, {59, 82, 105}}},
		{[][]int{{1_234, 5_678}}, [][]int{{9_972, 1}, {4_987, 9_971}}, [][]int{{1_605, 9_824}}},
		{sample.Filled(5, 5, 9_972), sample.Filled(5, 5, 9_972), sample.Filled(5, 5, 5)},
		{sample.Filled(1, 5, 9_972), sample.Filled(5, 1, 9_972), [][]int{{5}}},
		{sample.Filled(5, 1, 9_972), sample.Filled(1, 5, 9_972), sample.Filled(5, 5, 1)},
		{sample.Filled(2, 3, 9_972), sample.Filled(3, 4, 1), sample.Filled(2, 4, 9_970)},
	} {
		wantMul(t, c.a, c.b, c.want)
	}
}

func TestMulOfAllSizes(t *testing.T) {
	for rows, between := range sample.Sizes() {
		for columns := 1; columns <= 5; columns++ {
			for seed := range 20 {
				a, b := sample.Mixed(rows, between, seed), sample.Mixed(between, columns, seed+1_000)
				wantMul(t, a, b, sample.Mul(a, b))
			}
			a, b := sample.Filled(rows, between, 9_972), sample.Filled(between, columns, 9_972)
			wantMul(t, a, b, sample.Filled(rows, columns, between))
			wantMul(t, a, sample.Filled(between, columns, 0), sample.Filled(rows, columns, 0))
			wantMul(t, sample.Filled(rows, between, 0), b, sample.Filled(rows, columns, 0))
		}
		a := sample.Mixed(rows, between, 7)
		wantMul(t, a, sample.Unit(between), a)
		wantMul(t, sample.Unit(rows), a, a)
	}
}

// TestMulOfSingleElements has one element in each matrix that is not zero: the
// product has one if the column of the first is the row of the second.
func TestMulOfSingleElements(t *testing.T) {
	for i := range 4 {
		for j := range 5 {
			for k := range 5 {
				for l := range 3 {
					want := sample.Filled(4, 3, 0)
					if j == k {
						want[i][l] = 9_971
					}
					wantMul(t, sample.With(4, 5, i, j, 9_972), sample.With(5, 3, k, l, 2), want)
				}
			}
		}
	}
}

func TestMulOfEdges(t *testing.T) {
	for _, a := range edges {
		for _, b := range edges {
			wantMul(t, [][]int{{a}}, [][]int{{b}}, [][]int{{a * b % 9_973}})
			wantMul(t, [][]int{{a, b}}, [][]int{{b}, {a}}, [][]int{{2 * a * b % 9_973}})
		}
	}
}

func TestTurn(t *testing.T) {
	for _, c := range []struct{ m, want [][]int }{
		{[][]int{{7}}, [][]int{{7}}},
		{[][]int{{0, 9_972}}, [][]int{{0}, {9_972}}},
		{[][]int{{1, 2}}, [][]int{{1}, {2}}},
		{[][]int{{1, 2}, {3, 4}}, [][]int{{1, 3}, {2, 4}}},
		{[][]int{{1, 2, 3}, {4, 5, 6}}, [][]int{{1, 4}, {2, 5}, {3, 6}}},
		{[][]int{{1, 2, 3, 4, 5}}, [][]int{{1}, {2}, {3}, {4}, {5}}},
		{[][]int{{1, 2}, {3, 4}, {5, 6}, {7, 8}, {9, 10}}, [][]int{{1, 3, 5, 7, 9}, {2, 4, 6, 8, 10}}},
		{sample.Unit(5), sample.Unit(5)},
	} {
		wantTurn(t, c.m, c.want)
		wantTurn(t, c.want, c.m)
	}
	for rows, columns := range sample.Sizes() {
		for seed := range 20 {
			m, want := sample.Mixed(rows, columns, seed), sample.Filled(columns, rows, 0)
			for i, row := range m {
				for j, n := range row {
					want[j][i] = n
				}
			}
			wantTurn(t, m, want)
			wantTurn(t, want, m)
		}
	}
}

func TestOne(t *testing.T) {
	for n, want := range [][][]int{
		1: {{1}},
		2: {{1, 0}, {0, 1}},
		3: {{1, 0, 0}, {0, 1, 0}, {0, 0, 1}},
		4: {{1, 0, 0, 0}, {0, 1, 0, 0}, {0, 0, 1, 0}, {0, 0, 0, 1}},
		5: {{1, 0, 0, 0, 0}, {0, 1, 0, 0, 0}, {0, 0, 1, 0, 0}, {0, 0, 0, 1, 0}, {0, 0, 0, 0, 1}},
	} {
		got, err := One(n)
		if n > 0 && (!sample.Same(got, want) || err != nil) {
			t.Errorf("One(%d) = %v, %v, want %v", n, got, err, want)
		}
	}
	for _, n := range badSizes {
		if got, err := One(n); len(got) != 0 || plain.Told(err) != api.ErrRange {
			t.Errorf("One(%d) = %v, %v, want nothing and ErrRange", n, got, err)
		}
	}
}

func TestPow(t *testing.T) {
	fibonacci, ring := [][]int{{1, 1}, {1, 0}}, [][]int{{0, 1, 0}, {0, 0, 1}, {1, 0, 0}}
	for _, c := range []struct {
		m    [][]int
		n    int
		want [][]int
	}{
		{[][]int{{2}}, 3, [][]int{{8}}},
		{[][]int{{2}}, 999, [][]int{{7_296}}},
		{[][]int{{2}}, 1_000, [][]int{{4_619}}},
		{[][]int{{0}}, 0, [][]int{{1}}},
		{[][]int{{0}}, 1, [][]int{{0}}},
		{[][]int{{0}}, 1_000, [][]int{{0}}},
		{[][]int{{9_972}}, 999, [][]int{{9_972}}},
		{[][]int{{9_972}}, 1_000, [][]int{{1}}},
		{[][]int{{1, 2}, {3, 4}}, 2, [][]int{{7, 10}, {15, 22}}},
		{[][]int{{1, 2}, {3, 4}}, 3, [][]int{{37, 54}, {81, 118}}},
		{[][]int{{1, 2}, {3, 4}}, 5, [][]int{{1_069, 1_558}, {2_337, 3_406}}},
		{[][]int{{1, 1}, {0, 1}}, 1_000, [][]int{{1, 1_000}, {0, 1}}},
		{[][]int{{0, 1}, {0, 0}}, 1, [][]int{{0, 1}, {0, 0}}},
		{[][]int{{0, 1}, {0, 0}}, 2, sample.Filled(2, 2, 0)},
		{fibonacci, 10, [][]int{{89, 55}, {55, 34}}},
		{fibonacci, 999, [][]int{{7_607, 2_844}, {2_844, 4_763}}},
		{fibonacci, 1_000, [][]int{{478, 7_607}, {7_607, 2_844}}},
		{ring, 999, sample.Unit(3)},
		{ring, 1_000, ring},
		{sample.Filled(5, 5, 9_972), 2, sample.Filled(5, 5, 5)},
		{sample.Filled(5, 5, 9_972), 999, sample.Filled(5, 5, 6_033)},
		{sample.Filled(5, 5, 9_972), 1_000, sample.Filled(5, 5, 9_727)},
	} {
		wantPow(t, c.m, c.n, c.want)
	}
}

// TestPowToAllExponents multiplies by m once for each exponent.
func TestPowToAllExponents(t *testing.T) {
	for n := 1; n <= 5; n++ {
		for _, m := range [][][]int{
			sample.Filled(n, n, 0), sample.Filled(n, n, 1), sample.Filled(n, n, 9_972), sample.Unit(n), sample.Mixed(n, n, 1), sample.Mixed(n, n, 2), sample.With(n, n, 0, n-1, 3),
		} {
			want := sample.Unit(n)
			for exponent := range 1_001 {
				wantPow(t, m, exponent, want)
				want = sample.Mul(want, m)
			}
		}
	}
}

// TestPlaces checks the order of the places, and that no more of them come once
// a loop has ended.
func TestPlaces(t *testing.T) {
	for rows, columns := range sample.Sizes() {
		m := sample.Filled(rows, columns, 0)
		for many := 1; many <= rows*columns; many++ {
			count := 0
			for i, j := range places(m) {
				if i != count/columns || j != count%columns {
					t.Fatalf("place %d of %v is %d, %d", count, m, i, j)
				}
				count++
				if count == many {
					break
				}
			}
			if count != many {
				t.Fatalf("%v has %d places, want %d", m, count, many)
			}
		}
	}
}

// TestBad has all lists that are no matrices.
func TestBad(t *testing.T) {
	for m, want := range sample.Bad() {
		wantBad(t, m, want)
	}
}

// TestOrder checks that the errors of a come before those of b.
func TestOrder(t *testing.T) {
	kinds := []struct {
		m    [][]int
		want api.Errno
	}{
		{nil, api.ErrNone},
		{[][]int{{}}, api.ErrNone},
		{sample.Filled(6, 1, 1), api.ErrFull},
		{sample.Filled(1, 6, 1), api.ErrFull},
		{[][]int{{1, 2}, {3}}, api.ErrShape},
		{[][]int{{1}, {2, 3}}, api.ErrShape},
		{[][]int{{-1}}, api.ErrRange},
		{[][]int{{1, 2}, {3, 9_973}}, api.ErrRange},
	}
	for _, a := range kinds {
		wantBad(t, a.m, a.want)
		for _, b := range kinds {
			wantAddError(t, a.m, b.m, a.want)
			wantMulError(t, a.m, b.m, a.want)
		}
		for rows, columns := range sample.Sizes() {
			// The errors of one matrix come before those of both.
			good := sample.Mixed(rows, columns, 8)
			wantAddError(t, good, a.m, a.want)
			wantAddError(t, a.m, good, a.want)
			wantMulError(t, good, a.m, a.want)
			wantMulError(t, a.m, good, a.want)
		}
	}
}

// TestOtherSizes adds and multiplies matrices of all sizes.
func TestOtherSizes(t *testing.T) {
	for rows, columns := range sample.Sizes() {
		for otherRows, otherColumns := range sample.Sizes() {
			a, b := sample.Mixed(rows, columns, 9), sample.Mixed(otherRows, otherColumns, 10)
			if rows != otherRows || columns != otherColumns {
				wantAddError(t, a, b, api.ErrShape)
			}
			if columns != otherRows {
				wantMulError(t, a, b, api.ErrShape)
			} else {
				wantMul(t, a, b, sample.Mul(a, b))
			}
		}
	}
}

func TestPowErrors(t *testing.T) {
	for rows, columns := range sample.Sizes() {
		for _, n := range []int{0, 1, 2, 999, 1_000} {
			if rows != columns {
				wantPowError(t, sample.Mixed(rows, columns, 11), n, api.ErrShape)
			}
		}
		for _, n := range badExponents {
			want := api.ErrRange
			if rows != columns {
				want = api.ErrShape
			}
			wantPowError(t, sample.Mixed(rows, columns, 11), n, want)
			wantPowError(t, sample.Filled(rows, columns, 0), n, want)
		}
	}
}

// checkArguments calls all functions with two matrices, and overwrites the
// results.
func checkArguments(t *testing.T, a, b [][]int) {
	t.Helper()
	a, b = sample.Spacious(a), sample.Spacious(b)
	wantA, wantB := sample.Whole(a), sample.Whole(b)
	for range 2 {
		for _, call := range []func() ([][]int, error){
			func() ([][]int, error) { return nil, Check(a) },
			func() ([][]int, error) { return Add(a, b) },
			func() ([][]int, error) { return Add(a, a) },
			func() ([][]int, error) { return Mul(a, b) },
			func() ([][]int, error) { return Mul(a, a) },
			func() ([][]int, error) { return Turn(a) },
			func() ([][]int, error) { return One(len(a)) },
			func() ([][]int, error) { return Pow(a, 0) },
			func() ([][]int, error) { return Pow(a, 1) },
			func() ([][]int, error) { return Pow(a, 2) },
			func() ([][]int, error) { return Pow(a, 7) },
			func() ([][]int, error) { return Pow(a, 1_000) },
			func() ([][]int, error) { return Pow(a, 1_001) },
		} {
			first, _ := call()
			want := sample.Clone(first)
			second, _ := call()
			if !sample.Spoil(second) {
				t.Fatal("rows of a result share memory")
			}
			if !sample.Same(first, want) {
				t.Fatalf("of %v and %v, two results share memory, or %v is not the same again", wantA, wantB, want)
			}
			if !sample.Spoil(first) {
				t.Fatal("rows of a result share memory")
			}
			if third, _ := call(); !sample.Same(third, want) {
				t.Fatalf("of %v and %v, the results are first %v and later %v", wantA, wantB, want, third)
			}
		}
	}
	if !sample.Same(sample.Whole(a), wantA) || !sample.Same(sample.Whole(b), wantB) {
		t.Fatalf("arguments %v and %v became %v and %v", wantA, wantB, sample.Whole(a), sample.Whole(b))
	}
}

// TestArguments checks that matrices stay as they are, with their spare
// capacity, whatever is done to the results, and that results depend on nothing
// else.
func TestArguments(t *testing.T) {
	for rows, columns := range sample.Sizes() {
		a := sample.Mixed(rows, columns, 12)
		checkArguments(t, a, sample.Mixed(rows, columns, 13))
		checkArguments(t, a, sample.Mixed(columns, rows, 13))
		checkArguments(t, a, sample.Filled(rows, columns, 0))
		checkArguments(t, a, sample.Unit(columns))
		checkArguments(t, sample.Unit(rows), a)
		checkArguments(t, sample.Filled(rows, columns, 9_973), a)
		checkArguments(t, a, sample.Filled(rows, columns, -1))
	}
	checkArguments(t, nil, nil)
	checkArguments(t, sample.Filled(6, 6, 1), sample.Filled(6, 6, 1))
	checkArguments(t, [][]int{{1, 2}, {3}}, [][]int{{1}, {2, 3}})
}

// TestSharedArguments has rows that are the same memory, or overlap.
func TestSharedArguments(t *testing.T) {
	line := sample.Mixed(1, 12, 14)[0]
	before := slices.Clone(line)
	m := [][]int{line[:5], line[:5], line[2:7], line[7:12], line[1:6]}
	alone := sample.Clone(m)
	wantAdd(t, m, m, sample.Mul(alone, [][]int{{2, 0, 0, 0, 0}, {0, 2, 0, 0, 0}, {0, 0, 2, 0, 0}, {0, 0, 0, 2, 0}, {0, 0, 0, 0, 2}}))
	wantMul(t, m, m, sample.Mul(alone, alone))
	wantPow(t, m, 3, sample.Mul(sample.Mul(alone, alone), alone))
	turned, err := Turn(m)
	if err != nil {
		t.Fatal(err)
	}
	wantTurn(t, turned, alone)
	if !sample.Spoil(turned) {
		t.Fatal("rows of a result share memory")
	}
	if !slices.Equal(line, before) {
		t.Fatalf("%v became %v", before, line)
	}
}
