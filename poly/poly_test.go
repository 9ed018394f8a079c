package poly

import (
	"errors"
	"math"
	"math/big"
	"slices"
	"testing"

	"rankmere/api"
)

// outside are numbers that are neither coefficients nor places.
var outside = []int{
	-1, -2, -api.Prime + 1, -api.Prime, api.Prime, api.Prime + 1, 2 * api.Prime, api.MaxNum, -api.MaxNum,
	1 << 32, 1<<32 + 5, -1 << 32, math.MaxInt, math.MinInt,
}

// edges are elements of the field at its limits, and some others of all sizes.
var edges = []int{
	0, 1, 2, 3, 10, 11, 100, 1_234, 4_986, 4_987, 5_678, 8_191, api.Prime - 3, api.Prime - 2, api.Prime - 1,
}

// plainAt returns the sum of the coefficients times powers of x, with numbers
// that have no limits.
func plainAt(f []int, x int) int {
	sum, place, power := new(big.Int), big.NewInt(int64(x)), big.NewInt(1)
	for _, c := range f {
		sum.Add(sum, new(big.Int).Mul(big.NewInt(int64(c)), power))
		power.Mul(power, place)
	}
	return int(sum.Mod(sum, big.NewInt(api.Prime)).Int64())
}

// places are more places than any polynomial of these tests has coefficients,
// so that the values there leave no choice of the polynomial.
var places = []int{
	0, 1, 2, 3, 4, 5, 6, 7, 8, 9, 10, 11, 12, 13, 14, 15, 16, 17, 18, 19, 20, 21, 22, 23, 24, 25, 26, 27, 28,
	4_986, api.Prime - 2, api.Prime - 1,
}

// values returns the values at all places.
func values(f []int) []int {
	l := make([]int, len(places))
	for i, x := range places {
		l[i] = plainAt(f, x)
	}
	return l
}

// proper tells whether a list is as a result has to be.
func proper(f []int) bool {
	for _, c := range f {
		if c < 0 || c >= api.Prime {
			return false
		}
	}
	return len(f) < len(places) && (len(f) == 0 || f[len(f)-1] != 0)
}

// short returns a polynomial without zeros at its end, in new memory.
func short(f []int) []int {
	l := slices.Clone(f)
	for len(l) > 0 && l[len(l)-1] == 0 {
		l = l[:len(l)-1]
	}
	return l
}

// operation is one of Add, Mul and Gcd.
type operation struct {
	name string
	call func(f, g []int) ([]int, error)
}

var (
	add = operation{"Add", Add}
	mul = operation{"Mul", Mul}
	gcd = operation{"Gcd", Gcd}
)

// wantList fails the test unless an operation returns this and no error.
func wantList(t *testing.T, op operation, f, g, want []int) {
	t.Helper()
	got, err := op.call(f, g)
	if !slices.Equal(got, want) || err != nil {
		t.Fatalf("%s(%v, %v) = %v, %v, want %v", op.name, f, g, got, err, want)
	}
}

// wantDiv fails the test unless Div returns this and no error.
func wantDiv(t *testing.T, f, g, quot, rest []int) {
	t.Helper()
	gotQuot, gotRest, err := Div(f, g)
	if !slices.Equal(gotQuot, quot) || !slices.Equal(gotRest, rest) || err != nil {
		t.Fatalf("Div(%v, %v) = %v, %v, %v, want %v, %v", f, g, gotQuot, gotRest, err, quot, rest)
	}
}

// wantAt fails the test unless At returns this and no error.
func wantAt(t *testing.T, f []int, x, want int) {
	t.Helper()
	got, err := At(f, x)
	if got != want || err != nil {
		t.Fatalf("At(%v, %d) = %d, %v, want %d", f, x, got, err, want)
	}
}

// wantPairError fails the test unless all functions of two polynomials return
// nothing but this error.
func wantPairError(t *testing.T, f, g []int, want api.Errno) {
	t.Helper()
	for _, op := range []operation{add, mul, gcd} {
		got, err := op.call(f, g)
		if len(got) != 0 || !errors.Is(err, want) {
			t.Fatalf("%s(%v, %v) = %v, %v, want nothing and %v", op.name, f, g, got, err, want)
		}
	}
	wantDivError(t, f, g, want)
}

// wantDivError fails the test unless Div returns nothing but this error.
func wantDivError(t *testing.T, f, g []int, want api.Errno) {
	t.Helper()
	quot, rest, err := Div(f, g)
	if len(quot) != 0 || len(rest) != 0 || !errors.Is(err, want) {
		t.Fatalf("Div(%v, %v) = %v, %v, %v, want nothing and %v", f, g, quot, rest, err, want)
	}
}

// wantAtError fails the test unless At returns 0 and this error.
func wantAtError(t *testing.T, f []int, x int, want api.Errno) {
	t.Helper()
	got, err := At(f, x)
	if got != 0 || !errors.Is(err, want) {
		t.Fatalf("At(%v, %d) = %d, %v, want 0 and %v", f, x, got, err, want)
	}
}

// checkAdd compares a sum with the sums of the values.
func checkAdd(t *testing.T, f, g []int) {
	t.Helper()
	got, err := Add(f, g)
	want := make([]int, len(places))
	a, b := values(f), values(g)
	for i := range want {
		want[i] = (a[i] + b[i]) % api.Prime
	}
	if err != nil || !proper(got) || !slices.Equal(values(got), want) {
		t.Fatalf("Add(%v, %v) = %v, %v", f, g, got, err)
	}
}

// checkMul compares a product with the products of the values.
func checkMul(t *testing.T, f, g []int) {
	t.Helper()
	got, err := Mul(f, g)
	want := make([]int, len(places))
	a, b := values(f), values(g)
	for i := range want {
		want[i] = a[i] * b[i] % api.Prime
	}
	if err != nil || !proper(got) || !slices.Equal(values(got), want) {
		t.Fatalf("Mul(%v, %v) = %v, %v", f, g, got, err)
	}
}

// checkDiv compares the values of f with those of g*quot + rest. No other
// quotient and remainder fit if the remainder is short enough.
func checkDiv(t *testing.T, f, g []int) {
	t.Helper()
	quot, rest, err := Div(f, g)
	a, b, c, d := values(f), values(g), values(quot), values(rest)
	same := true
	for i := range places {
		same = same && (b[i]*c[i]+d[i])%api.Prime == a[i]
	}
	if err != nil || !same || !proper(quot) || !proper(rest) || len(quot) > len(f) || len(rest) >= len(short(g)) {
		t.Fatalf("Div(%v, %v) = %v, %v, %v", f, g, quot, rest, err)
	}
}

// forLists calls f with all lists of so many numbers, out of these.
func forLists(many int, of []int, f func(list []int)) {
	if many == 0 {
		f(nil)
		return
	}
	forLists(many-1, of, func(list []int) {
		for _, n := range of {
			f(append(slices.Clone(list), n))
		}
	})
}

// small returns all lists of at most so many numbers, out of these.
func small(most int, of []int) [][]int {
	var all [][]int
	for many := range most + 1 {
		forLists(many, of, func(list []int) { all = append(all, list) })
	}
	return all
}

// mixed returns a list of elements that follow no plain rule; another seed
// makes another one.
func mixed(many, seed int) []int {
	l := make([]int, many)
	state := uint32(seed)*2_654_435_761 + 12_345
	for i := range l {
		state = state*1_664_525 + 1_013_904_223
		l[i] = int(state>>8) % api.Prime
	}
	return l
}

// samples returns polynomials of all lengths: mixed ones, those of equal
// coefficients at the limits, powers, and ones with zeros at the end.
func samples() [][]int {
	var all [][]int
	for many := range api.MaxCoefs + 1 {
		all = append(all, mixed(many, many), mixed(many, many+100))
		for _, c := range []int{0, 1, api.Prime - 1} {
			all = append(all, slices.Repeat([]int{c}, many))
		}
		if many > 0 {
			power := make([]int, many)
			power[many-1] = api.Prime - 1
			zeros := make([]int, api.MaxCoefs-many)
			all = append(all, power, append(mixed(many, many+200), zeros...))
		}
	}
	return all
}

// product multiplies by definition.
func product(f, g []int) []int {
	if len(f) == 0 || len(g) == 0 {
		return nil
	}
	l := make([]int, len(f)+len(g)-1)
	for i := range f {
		for j := range g {
			l[i+j] = (l[i+j] + f[i]*g[j]) % api.Prime
		}
	}
	return short(l)
}

// withRoots returns the monic polynomial that has these roots.
func withRoots(roots ...int) []int {
	f := []int{1}
	for _, r := range roots {
		f = product(f, []int{(api.Prime - r) % api.Prime, 1})
	}
	return f
}

func TestCheck(t *testing.T) {
	for _, f := range slices.Concat(samples(), small(3, edges)) {
		if err := Check(f); err != nil {
			t.Fatalf("Check(%v) = %v", f, err)
		}
	}
	for c := range api.Prime {
		if err := Check([]int{c}); err != nil {
			t.Fatalf("Check([%d]) = %v", c, err)
		}
	}
}

// badLists returns lists of all lengths with a number at one place that is no
// coefficient.
func badLists() [][]int {
	var all [][]int
	for many := 1; many <= api.MaxCoefs; many++ {
		for at := range many {
			for _, bad := range outside {
				l, other := mixed(many, at), make([]int, many)
				l[at], other[at] = bad, bad
				all = append(all, l, other)
			}
		}
	}
	return all
}

// longLists returns lists of more coefficients than there may be, some of them
// with zeros past the last that may be, or with numbers that are no
// coefficients.
func longLists() [][]int {
	var all [][]int
	for _, many := range []int{api.MaxCoefs + 1, api.MaxCoefs + 2, 2*api.MaxCoefs - 1, 2 * api.MaxCoefs, 100, 1_000} {
		end := make([]int, many)
		end[many-1] = 1
		all = append(all, make([]int, many), end, mixed(many, 5))
		all = append(all, append(mixed(api.MaxCoefs, 6), make([]int, many-api.MaxCoefs)...))
		for _, bad := range outside {
			first, last := mixed(many, 7), mixed(many, 8)
			first[0], last[many-1] = bad, bad
			all = append(all, first, last, slices.Repeat([]int{bad}, many))
		}
	}
	return all
}

func TestCheckErrors(t *testing.T) {
	for _, f := range badLists() {
		if err := Check(f); !errors.Is(err, api.ErrRange) {
			t.Fatalf("Check(%v) = %v, want ErrRange", f, err)
		}
	}
	for _, f := range longLists() {
		if err := Check(f); !errors.Is(err, api.ErrFull) {
			t.Fatalf("Check(%v) = %v, want ErrFull", f, err)
		}
	}
}

// good returns polynomials to go with one that is none.
func good() [][]int {
	return [][]int{nil, {0}, {1}, {3, 4}, {0, 0, 0}, mixed(api.MaxCoefs, 9), make([]int, api.MaxCoefs)}
}

func TestErrorsOfPairs(t *testing.T) {
	for _, other := range good() {
		for _, bad := range badLists() {
			wantPairError(t, bad, other, api.ErrRange)
			wantPairError(t, other, bad, api.ErrRange)
		}
		for _, long := range longLists() {
			wantPairError(t, long, other, api.ErrFull)
			wantPairError(t, other, long, api.ErrFull)
		}
	}
}

// TestFirstErrorOfPairs checks that f decides if g has an error as well.
func TestFirstErrorOfPairs(t *testing.T) {
	for _, bad := range badLists() {
		for _, long := range [][]int{make([]int, api.MaxCoefs+1), mixed(50, 3), slices.Repeat([]int{-1}, 13)} {
			wantPairError(t, bad, long, api.ErrRange)
			wantPairError(t, long, bad, api.ErrFull)
		}
		wantPairError(t, bad, []int{-1}, api.ErrRange)
	}
	for _, long := range longLists() {
		wantPairError(t, long, []int{api.Prime}, api.ErrFull)
		wantPairError(t, []int{0, api.Prime}, long, api.ErrRange)
		wantPairError(t, long, long, api.ErrFull)
	}
}

func TestAdd(t *testing.T) {
	for _, c := range []struct{ f, g, want []int }{
		{nil, nil, nil},
		{[]int{0, 0}, []int{0, 0, 0}, nil},
		{[]int{1}, nil, []int{1}},
		{nil, []int{1}, []int{1}},
		{[]int{5, 0, 0}, nil, []int{5}},
		{nil, []int{0, 5, 0}, []int{0, 5}},
		{[]int{1, 2}, []int{3, 4, 5}, []int{4, 6, 5}},
		{[]int{3, 4, 5}, []int{1, 2}, []int{4, 6, 5}},
		{[]int{1, 2}, []int{9_972, 0}, []int{0, 2}},
		{[]int{1, 2}, []int{0, 9_971}, []int{1}},
		{[]int{1, 2, 3}, []int{9_972, 9_971, 9_970}, nil},
		{[]int{1, 2, 3, 4}, []int{7, 9_971, 9_970, 9_969}, []int{8}},
		{[]int{0, 2, 0, 4}, []int{0, 0, 0, 9_969, 0, 0}, []int{0, 2}},
		{[]int{9_972, 9_972}, []int{9_972, 9_972}, []int{9_971, 9_971}},
		{[]int{9_972}, []int{1}, nil},
		{[]int{9_972}, []int{2}, []int{1}},
	} {
		wantList(t, add, c.f, c.g, c.want)
	}
}

func TestAddOfAll(t *testing.T) {
	all := small(4, []int{0, 1, api.Prime - 1})
	for _, f := range all {
		for _, g := range all {
			checkAdd(t, f, g)
		}
	}
}

func TestAddOfSamples(t *testing.T) {
	for _, f := range samples() {
		for _, g := range samples() {
			checkAdd(t, f, g)
		}
	}
}

// TestAddCancels has sums of which only the lowest coefficients are left.
func TestAddCancels(t *testing.T) {
	for many := range api.MaxCoefs + 1 {
		f := slices.Repeat([]int{9_000}, many)
		g := slices.Repeat([]int{973}, many)
		wantList(t, add, f, g, nil)
		for at := range many {
			g[at] = 974
			want := make([]int, at+1)
			want[at] = 1
			wantList(t, add, f, g, want)
			g[at] = 973
		}
	}
}

func TestMul(t *testing.T) {
	for _, c := range []struct{ f, g, want []int }{
		{nil, nil, nil},
		{[]int{0, 0}, nil, nil},
		{[]int{0, 0}, []int{0, 0, 0}, nil},
		{[]int{1, 2}, nil, nil},
		{nil, []int{1, 2}, nil},
		{[]int{1, 2}, []int{0, 0}, nil},
		{[]int{1, 1}, []int{1, 1}, []int{1, 2, 1}},
		{[]int{1, 1}, []int{9_972, 1}, []int{9_972, 0, 1}},
		{[]int{1, 1, 0}, []int{1, 1, 0, 0}, []int{1, 2, 1}},
		{[]int{1}, []int{3, 4, 5}, []int{3, 4, 5}},
		{[]int{3, 4, 5}, []int{2}, []int{6, 8, 10}},
		{[]int{0, 1}, []int{3, 4, 5}, []int{0, 3, 4, 5}},
		{[]int{1, 2, 3}, []int{4, 5, 6}, []int{4, 13, 28, 27, 18}},
		{[]int{9_972}, []int{9_972}, []int{1}},
		{[]int{9_972, 9_972}, []int{9_972, 9_972}, []int{1, 2, 1}},
		{[]int{100}, []int{100}, []int{27}},
	} {
		wantList(t, mul, c.f, c.g, c.want)
	}
}

func TestMulOfAll(t *testing.T) {
	all := small(4, []int{0, 1, api.Prime - 1})
	for _, f := range all {
		for _, g := range all {
			checkMul(t, f, g)
		}
	}
}

func TestMulOfSamples(t *testing.T) {
	for _, f := range samples() {
		for _, g := range samples() {
			checkMul(t, f, g)
		}
	}
}

// TestLongProducts has products of more coefficients than arguments may have.
func TestLongProducts(t *testing.T) {
	ones := slices.Repeat([]int{1}, api.MaxCoefs)
	most := slices.Repeat([]int{api.Prime - 1}, api.MaxCoefs)
	want := []int{1, 2, 3, 4, 5, 6, 7, 8, 9, 10, 11, 12, 11, 10, 9, 8, 7, 6, 5, 4, 3, 2, 1}
	wantList(t, mul, ones, ones, want)
	wantList(t, mul, most, most, want)
	power := append(make([]int, api.MaxCoefs-1), 2)
	wantList(t, mul, power, power, append(make([]int, 2*api.MaxCoefs-2), 4))
	wantList(t, mul, power, []int{0, 3}, append(make([]int, api.MaxCoefs), 6))
}

func TestDiv(t *testing.T) {
	for _, c := range []struct{ f, g, quot, rest []int }{
		{[]int{1, 2, 1}, []int{1, 1}, []int{1, 1}, nil},
		{[]int{2, 2, 1}, []int{1, 1}, []int{1, 1}, []int{1}},
		{[]int{1, 2, 1, 0}, []int{1, 1, 0, 0}, []int{1, 1}, nil},
		{nil, []int{1}, nil, nil},
		{nil, []int{3, 4}, nil, nil},
		{[]int{0, 0, 0}, []int{3, 4}, nil, nil},
		{[]int{5}, []int{5}, []int{1}, nil},
		{[]int{6, 9}, []int{3}, []int{2, 3}, nil},
		{[]int{1}, []int{2}, []int{4_987}, nil},
		{[]int{1, 9_972, 7}, []int{9_972, 0, 0}, []int{9_972, 1, 9_966}, nil},
		{[]int{7}, []int{3, 4}, nil, []int{7}},
		{[]int{7, 0, 0, 0}, []int{3, 4, 0}, nil, []int{7}},
		{[]int{7, 8}, []int{1, 2, 3}, nil, []int{7, 8}},
		{[]int{0, 1}, []int{0, 0, 1}, nil, []int{0, 1}},
		{[]int{7, 8}, []int{1, 2}, []int{4}, []int{3}},
		{[]int{9_972, 0, 1}, []int{1, 1}, []int{9_972, 1}, nil},
		{[]int{5, 0, 0, 0, 1}, []int{1, 0, 1}, []int{9_972, 0, 1}, []int{6}},
		{[]int{1, 2, 3, 4}, []int{0, 0, 1}, []int{3, 4}, []int{1, 2}},
		{[]int{1, 0, 3, 4}, []int{0, 0, 1}, []int{3, 4}, []int{1}},
		{[]int{0, 0, 3, 4}, []int{0, 0, 1}, []int{3, 4}, nil},
		{[]int{1, 1, 1}, []int{0, 2}, []int{4_987, 4_987}, []int{1}},
	} {
		wantDiv(t, c.f, c.g, c.quot, c.rest)
	}
}

func TestDivOfAll(t *testing.T) {
	all := small(4, []int{0, 1, api.Prime - 2})
	for _, f := range all {
		for _, g := range all {
			if len(short(g)) > 0 {
				checkDiv(t, f, g)
			}
		}
	}
}

func TestDivOfSamples(t *testing.T) {
	for _, f := range samples() {
		for _, g := range samples() {
			if len(short(g)) > 0 {
				checkDiv(t, f, g)
			}
		}
	}
}

// TestDivOfProducts divides what it has multiplied, and something added to it.
func TestDivOfProducts(t *testing.T) {
	for many := 1; many <= api.MaxCoefs; many++ {
		for seed := range 20 {
			g := mixed(many, seed)
			quot := mixed(api.MaxCoefs+1-many, seed+50)
			g[many-1], quot[len(quot)-1] = seed+1, api.Prime-1-seed
			f := product(g, quot)
			wantDiv(t, f, g, quot, nil)
			if many > 1 {
				f[0] = (f[0] + 1) % api.Prime
				wantDiv(t, f, g, quot, []int{1})
			}
		}
	}
}

// TestDivByConstants multiplies each coefficient of the quotient by the constant,
// and so needs no inverse.
func TestDivByConstants(t *testing.T) {
	for c := 1; c < api.Prime; c++ {
		f := []int{c - 1, 1, c, 5_000}
		quot, rest, err := Div(f, []int{c, 0})
		if err != nil || len(quot) != 4 || len(rest) != 0 {
			t.Fatalf("Div(%v, [%d 0]) = %v, %v, %v", f, c, quot, rest, err)
		}
		for i := range f {
			if quot[i] < 0 || quot[i] >= api.Prime || quot[i]*c%api.Prime != f[i] {
				t.Fatalf("Div(%v, [%d 0]) = %v, %v, %v", f, c, quot, rest, err)
			}
		}
	}
}

func TestDivByZero(t *testing.T) {
	for many := range api.MaxCoefs + 1 {
		zero := make([]int, many)
		for _, f := range samples() {
			wantDivError(t, f, zero, api.ErrNone)
		}
		for _, f := range badLists() {
			wantDivError(t, f, zero, api.ErrRange)
		}
		for _, f := range longLists() {
			wantDivError(t, f, zero, api.ErrFull)
		}
	}
	// None of these divisors is zero.
	wantDivError(t, []int{1}, make([]int, api.MaxCoefs+1), api.ErrFull)
	wantDivError(t, []int{1}, []int{api.Prime}, api.ErrRange)
	wantDivError(t, []int{1}, []int{0, 0, -api.Prime}, api.ErrRange)
}

func TestGcd(t *testing.T) {
	for _, c := range []struct{ f, g, want []int }{
		{[]int{1, 2, 1}, []int{1, 1}, []int{1, 1}},
		{[]int{1, 1}, []int{1, 2, 1}, []int{1, 1}},
		{[]int{9_972, 0, 1}, []int{1, 2, 1}, []int{1, 1}},
		{[]int{2, 2}, []int{3, 3}, []int{1, 1}},
		{[]int{2, 4, 2, 0}, []int{5, 5, 0}, []int{1, 1}},
		{[]int{1, 1}, []int{2, 1}, []int{1}},
		{[]int{1, 0, 1}, []int{9_972, 1}, []int{1}},
		{[]int{5}, []int{7}, []int{1}},
		{[]int{5}, []int{0, 7}, []int{1}},
		{[]int{0, 7}, []int{5}, []int{1}},
		{[]int{0, 2}, []int{0, 0, 4}, []int{0, 1}},
		{[]int{0, 0, 0, 9_972}, []int{0, 0, 9_972}, []int{0, 0, 1}},
		// The common divisor has no roots, because 5 is no square modulo Prime.
		{product([]int{1, 1}, []int{9_972, 9_972, 1}), product([]int{2, 1}, []int{9_972, 9_972, 1}), []int{9_972, 9_972, 1}},
	} {
		wantList(t, gcd, c.f, c.g, c.want)
		wantList(t, gcd, c.g, c.f, c.want)
	}
}

func TestGcdWithZero(t *testing.T) {
	for many := range api.MaxCoefs + 1 {
		zero := make([]int, many)
		for length := range api.MaxCoefs + 1 {
			wantList(t, gcd, zero, make([]int, length), nil)
		}
		for _, c := range []struct{ f, want []int }{
			{[]int{1}, []int{1}},
			{[]int{9_972, 0}, []int{1}},
			{[]int{3, 6, 3}, []int{1, 2, 1}},
			{[]int{3, 6, 3, 0, 0}, []int{1, 2, 1}},
			{[]int{1, 2, 1}, []int{1, 2, 1}},
			{[]int{0, 2}, []int{0, 1}},
			{[]int{1, 2}, []int{4_987, 1}},
			{slices.Repeat([]int{9_972}, 12), slices.Repeat([]int{1}, 12)},
		} {
			wantList(t, gcd, c.f, zero, c.want)
			wantList(t, gcd, zero, c.f, c.want)
		}
	}
}

// multiple returns a polynomial times c.
func multiple(f []int, c int) []int {
	return product(f, []int{c})
}

// TestGcdOfRoots has polynomials with known roots, of which they share so many
// of each.
func TestGcdOfRoots(t *testing.T) {
	roots := []int{0, 1, 5, 77, 4_986, api.Prime - 1}
	forLists(5, []int{0, 1, 2}, func(counts []int) {
		var common []int
		for i, n := range counts {
			common = append(common, slices.Repeat([]int{roots[i]}, n)...)
		}
		want := withRoots(common...)
		for extra := 0; len(common)+extra < api.MaxCoefs; extra++ {
			f, g := want, want
			for i := range extra {
				f = product(f, withRoots(100+i%2))
				g = product(g, withRoots(200+i))
			}
			wantList(t, gcd, f, g, want)
			wantList(t, gcd, multiple(f, 9_972), multiple(g, 5_000), want)
			wantList(t, gcd, want, multiple(g, 3), want)
			wantList(t, gcd, multiple(f, 3), want, want)
		}
	})
}

// rootsOf tries all elements.
func rootsOf(f []int) []int {
	var roots []int
	for x := range api.Prime {
		value := 0
		for i := len(f) - 1; i >= 0; i-- {
			value = (value*x + f[i]) % api.Prime
		}
		if value == 0 {
			roots = append(roots, x)
		}
	}
	return roots
}

// plainGcd returns the greatest common divisor of two polynomials of degrees up
// to 2, of which rootsF and rootsG are the roots. If neither is a multiple of the
// other by a number, a common divisor has degree 1 at most, and so is 1 or has a
// common root.
func plainGcd(f, g, rootsF, rootsG []int) []int {
	// These numbers suffice for coefficients out of 0, 1, 2 and -1.
	for _, times := range []int{0, 1, 2, api.Prime - 1, api.Prime - 2} {
		if slices.Equal(multiple(f, times), g) {
			return monicOf(f)
		}
		if slices.Equal(multiple(g, times), f) {
			return monicOf(g)
		}
	}
	if len(f) > 1 && len(g) > 1 {
		for _, r := range rootsF {
			if slices.Contains(rootsG, r) {
				return withRoots(r)
			}
		}
	}
	return []int{1}
}

// monicOf finds the multiple of a polynomial that ends with 1, or with 0 if it
// is zero.
func monicOf(f []int) []int {
	if len(f) == 0 {
		return nil
	}
	for c := range api.Prime {
		if f[len(f)-1]*c%api.Prime == 1 {
			return multiple(f, c)
		}
	}
	return nil
}

func TestGcdOfAll(t *testing.T) {
	all := small(3, []int{0, 1, 2, api.Prime - 1})
	roots := make([][]int, len(all))
	for i, f := range all {
		if len(short(f)) > 0 {
			roots[i] = rootsOf(f)
		}
	}
	for i, f := range all {
		for j, g := range all {
			want := plainGcd(short(f), short(g), roots[i], roots[j])
			wantList(t, gcd, f, g, want)
		}
	}
}

// TestGcdOfSamples checks that the result is monic, divides both, and does not
// depend on the order.
func TestGcdOfSamples(t *testing.T) {
	for _, f := range samples() {
		for _, g := range samples() {
			got, err := Gcd(f, g)
			if err != nil || !proper(got) {
				t.Fatalf("Gcd(%v, %v) = %v, %v", f, g, got, err)
			}
			wantList(t, gcd, g, f, got)
			if len(short(f)) == 0 && len(short(g)) == 0 {
				continue
			}
			if len(got) == 0 || got[len(got)-1] != 1 {
				t.Fatalf("Gcd(%v, %v) = %v, which is not monic", f, g, got)
			}
			for _, h := range [][]int{f, g} {
				_, rest, err := Div(h, got)
				if err != nil || len(rest) != 0 {
					t.Fatalf("Gcd(%v, %v) = %v, which leaves %v of %v", f, g, got, rest, h)
				}
			}
		}
	}
}

func TestAt(t *testing.T) {
	for _, c := range []struct {
		f       []int
		x, want int
	}{
		{[]int{1, 1}, 2, 3},
		{nil, 0, 0},
		{nil, 9_972, 0},
		{[]int{0, 0, 0}, 5, 0},
		{[]int{7}, 0, 7},
		{[]int{7}, 9_972, 7},
		{[]int{7, 0, 0}, 9_972, 7},
		{[]int{9_972}, 9_972, 9_972},
		{[]int{0, 9_972}, 9_972, 1},
		{[]int{1, 2, 3}, 0, 1},
		{[]int{1, 2, 3}, 1, 6},
		{[]int{1, 2, 3}, 10, 321},
		{[]int{1, 2, 3}, 9_972, 2},
		{[]int{3, 2, 1}, 9_972, 2},
		{[]int{0, 0, 0, 0, 0, 0, 0, 0, 0, 0, 0, 1}, 2, 2_048},
		{[]int{0, 0, 0, 0, 0, 0, 0, 0, 0, 0, 0, 1}, 9_972, 9_972},
		{[]int{1, 0, 1, 0, 1, 0, 1, 0, 1, 0, 1, 0}, 9_972, 6},
		{[]int{9_972, 9_972, 9_972, 9_972, 9_972, 9_972, 9_972, 9_972, 9_972, 9_972, 9_972, 9_972}, 1, 9_961},
	} {
		wantAt(t, c.f, c.x, c.want)
	}
}

func TestAtAll(t *testing.T) {
	for _, f := range slices.Concat(samples(), small(3, edges)) {
		for _, x := range edges {
			wantAt(t, f, x, plainAt(f, x))
		}
	}
	for x := range api.Prime {
		for _, f := range [][]int{mixed(api.MaxCoefs, 1), {0, 1}, {1, 0, 1}} {
			wantAt(t, f, x, plainAt(f, x))
		}
	}
}

func TestAtErrors(t *testing.T) {
	for _, x := range outside {
		for _, f := range samples() {
			wantAtError(t, f, x, api.ErrRange)
		}
	}
	for _, x := range slices.Concat(edges, outside) {
		for _, f := range badLists() {
			wantAtError(t, f, x, api.ErrRange)
		}
		for _, f := range longLists() {
			wantAtError(t, f, x, api.ErrFull)
		}
	}
}

// TestArguments checks that lists stay as they are, with their spare capacity,
// whatever is done to the results, and that later calls do not depend on them.
func TestArguments(t *testing.T) {
	all := [][]int{nil, {0, 0}, {1}, {5}, {1, 1}, {1, 2, 1}, {3, 6, 3}, {0, 3, 0}, mixed(api.MaxCoefs, 4), {-1}, {7, api.Prime}}
	for range 2 {
		for _, f := range all {
			for _, g := range all {
				checkArguments(t, f, g)
			}
		}
	}
}

// checkArguments calls all functions with two lists that have spare capacity,
// and overwrites all that the results refer to.
func checkArguments(t *testing.T, f, g []int) {
	t.Helper()
	a := append(slices.Clone(f), 77, 78)
	b := append(slices.Clone(g), 79, 80)
	wantA, wantB := slices.Clone(a), slices.Clone(b)
	f, g = a[:len(f)], b[:len(g)]
	Check(f)
	At(f, 3)
	results := [][]int{}
	for _, op := range []operation{add, mul, gcd} {
		l, _ := op.call(f, g)
		results = append(results, l)
	}
	quot, rest, _ := Div(f, g)
	wantRest := slices.Clone(rest)
	overwrite(quot)
	if !slices.Equal(rest, wantRest) {
		t.Fatalf("the results of Div(%v, %v) share memory", f, g)
	}
	overwrite(rest)
	for _, l := range results {
		overwrite(l)
	}
	if !slices.Equal(a, wantA) || !slices.Equal(b, wantB) {
		t.Fatalf("arguments %v and %v became %v and %v", wantA, wantB, a, b)
	}
}

// overwrite writes to a list and its spare capacity.
func overwrite(l []int) {
	l = l[:cap(l)]
	for i := range l {
		l[i] = -99
	}
}
