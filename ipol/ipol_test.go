package ipol

import (
	"errors"
	"math"
	"math/big"
	"slices"
	"testing"

	"rankmere/api"
)

// outside are numbers that are no coordinates.
var outside = []int{
	-1, -2, -api.Prime + 1, -api.Prime, -api.Prime - 1, api.Prime, api.Prime + 1, 2 * api.Prime,
	api.MaxNum, -api.MaxNum, 1 << 32, 1<<32 + 5, -1 << 32, math.MaxInt, math.MinInt,
}

// edges are coordinates at their limits, and some others of all sizes.
var edges = []int{
	0, 1, 2, 3, 10, 100, 1_234, 4_986, 4_987, 5_678, 8_191, api.Prime - 3, api.Prime - 2, api.Prime - 1,
}

// plainAt returns the sum of the coefficients times powers of x, with numbers
// that have no limits.
func plainAt(f []int, x int) int {
	sum, place, power := new(big.Int), big.NewInt(int64(x)), big.NewInt(1)
	for _, c := range f {
		sum.Add(sum, new(big.Int).Mul(big.NewInt(int64(c)), power))
		power.Mul(power, place)
	}
	return int(sum.Mod(sum, big.NewInt(api.Prime)).Int64())
}

// plainStep returns the highest coefficient of the polynomial through all
// points, which is the sum of the ys, each divided by the differences of its x
// and all others.
func plainStep(xs, ys []int) int {
	prime, sum := big.NewInt(api.Prime), new(big.Int)
	for i, y := range ys {
		below := big.NewInt(1)
		for j, x := range xs {
			if j != i {
				below.Mul(below, big.NewInt(int64(xs[i]-x)))
			}
		}
		below.Mod(below, prime)
		below.ModInverse(below, prime)
		sum.Add(sum, below.Mul(below, big.NewInt(int64(y))))
	}
	return int(sum.Mod(sum, prime).Int64())
}

// plainSteps returns the highest coefficients for the first points, the first
// two, and so on.
func plainSteps(xs, ys []int) []int {
	var steps []int
	for k := range xs {
		steps = append(steps, plainStep(xs[:k+1], ys[:k+1]))
	}
	return steps
}

// short returns a polynomial without zeros at its end, in new memory.
func short(f []int) []int {
	l := slices.Clone(f)
	for len(l) > 0 && l[len(l)-1] == 0 {
		l = l[:len(l)-1]
	}
	return l
}

// wantSteps fails the test unless Steps returns this and no error.
func wantSteps(t *testing.T, xs, ys, want []int) {
	t.Helper()
	got, err := Steps(xs, ys)
	if !slices.Equal(got, want) || err != nil {
		t.Fatalf("Steps(%v, %v) = %v, %v, want %v", xs, ys, got, err, want)
	}
}

// wantThrough fails the test unless Through returns this and no error.
func wantThrough(t *testing.T, xs, ys, want []int) {
	t.Helper()
	got, err := Through(xs, ys)
	if !slices.Equal(got, want) || err != nil {
		t.Fatalf("Through(%v, %v) = %v, %v, want %v", xs, ys, got, err, want)
	}
}

// wantGood fails the test unless Check has no error.
func wantGood(t *testing.T, xs, ys []int) {
	t.Helper()
	if err := Check(xs, ys); err != nil {
		t.Fatalf("Check(%v, %v) = %v", xs, ys, err)
	}
}

// wantError fails the test unless all functions return nothing but this error.
func wantError(t *testing.T, xs, ys []int, want api.Errno) {
	t.Helper()
	if err := Check(xs, ys); !errors.Is(err, want) {
		t.Fatalf("Check(%v, %v) = %v, want %v", xs, ys, err, want)
	}
	if got, err := Steps(xs, ys); len(got) != 0 || !errors.Is(err, want) {
		t.Fatalf("Steps(%v, %v) = %v, %v, want nothing and %v", xs, ys, got, err, want)
	}
	if got, err := Through(xs, ys); len(got) != 0 || !errors.Is(err, want) {
		t.Fatalf("Through(%v, %v) = %v, %v, want nothing and %v", xs, ys, got, err, want)
	}
}

// checkPoints compares all results for points with their definitions. No two
// polynomials with at most one coefficient a point go through all of them.
func checkPoints(t *testing.T, xs, ys []int) {
	t.Helper()
	wantGood(t, xs, ys)
	wantSteps(t, xs, ys, plainSteps(xs, ys))
	got, err := Through(xs, ys)
	if err != nil || len(got) > len(xs) || !slices.Equal(short(got), got) {
		t.Fatalf("Through(%v, %v) = %v, %v", xs, ys, got, err)
	}
	for _, c := range got {
		if c < 0 || c >= api.Prime {
			t.Fatalf("Through(%v, %v) = %v", xs, ys, got)
		}
	}
	for i, x := range xs {
		if plainAt(got, x) != ys[i] {
			t.Fatalf("Through(%v, %v) = %v, which is %d at %d", xs, ys, got, plainAt(got, x), x)
		}
	}
}

// mixed returns a list of coordinates that follow no plain rule; another seed
// makes another one.
func mixed(many, seed int) []int {
	l := make([]int, many)
	state := uint32(seed)*2_654_435_761 + 12_345
	for i := range l {
		state = state*1_664_525 + 1_013_904_223
		l[i] = int(state>>8) % api.Prime
	}
	return l
}

// apart returns as many different coordinates.
func apart(many, seed int) []int {
	var l []int
	for _, x := range mixed(many+20, seed) {
		if len(l) < many && !slices.Contains(l, x) {
			l = append(l, x)
		}
	}
	return l
}

// forLists calls f with all lists of so many numbers, out of these.
func forLists(many int, of []int, f func(list []int)) {
	if many == 0 {
		f(nil)
		return
	}
	forLists(many-1, of, func(list []int) {
		for _, n := range of {
			f(append(slices.Clone(list), n))
		}
	})
}

// forOrders calls f with all lists of so many different numbers, out of these.
func forOrders(many int, of []int, f func(list []int)) {
	forLists(many, of, func(list []int) {
		sorted := slices.Sorted(slices.Values(list))
		if len(slices.Compact(sorted)) == many {
			f(list)
		}
	})
}

func TestCheck(t *testing.T) {
	wantGood(t, nil, nil)
	wantGood(t, []int{}, nil)
	wantGood(t, nil, []int{})
	for n := range api.Prime {
		wantGood(t, []int{n}, []int{n})
		wantGood(t, []int{n}, []int{api.Prime - 1 - n})
	}
	for many := range api.MaxDots + 1 {
		for seed := range 50 {
			wantGood(t, apart(many, seed), mixed(many, seed+1))
			wantGood(t, apart(many, seed), apart(many, seed))
		}
		forOrders(min(many, 3), edges, func(xs []int) { wantGood(t, xs, make([]int, len(xs))) })
	}
	// Only the xs have to be different.
	wantGood(t, []int{0, 1, 2, 3, 4, 5}, []int{7, 7, 7, 7, 7, 7})
	wantGood(t, []int{0, 1, 2, 3, 4, 5}, []int{5, 4, 3, 2, 1, 0})
}

func TestTooManyPoints(t *testing.T) {
	for _, many := range []int{api.MaxDots + 1, api.MaxDots + 2, 2 * api.MaxDots, 100, 5_000} {
		for _, other := range []int{0, 1, api.MaxDots - 1, api.MaxDots, many - 1, many, many + 1} {
			wantError(t, apart(many, 1), mixed(other, 2), api.ErrFull)
			wantError(t, make([]int, many), make([]int, other), api.ErrFull)
			for _, bad := range outside {
				wantError(t, slices.Repeat([]int{bad}, many), slices.Repeat([]int{bad}, other), api.ErrFull)
			}
		}
	}
}

func TestOtherLengths(t *testing.T) {
	for many := range api.MaxDots + 1 {
		for _, other := range []int{0, 1, 2, 3, 4, 5, 6, 7, 8, 12, 100} {
			if other == many {
				continue
			}
			wantError(t, apart(many, 1), mixed(other, 2), api.ErrShape)
			wantError(t, make([]int, many), make([]int, other), api.ErrShape)
			for _, bad := range outside {
				wantError(t, slices.Repeat([]int{bad}, many), mixed(other, 3), api.ErrShape)
				wantError(t, apart(many, 1), slices.Repeat([]int{bad}, other), api.ErrShape)
			}
		}
	}
	// The memory behind the lists is no part of them.
	long := apart(api.MaxDots, 3)
	wantError(t, long[:2], long[:3], api.ErrShape)
	wantError(t, long[:3], long[:2], api.ErrShape)
}

func TestOutside(t *testing.T) {
	for many := 1; many <= api.MaxDots; many++ {
		for at := range many {
			for _, bad := range outside {
				xs, ys := apart(many, 4), mixed(many, 5)
				xs[at] = bad
				wantError(t, xs, ys, api.ErrRange)
				xs, ys = apart(many, 6), mixed(many, 7)
				ys[at] = bad
				wantError(t, xs, ys, api.ErrRange)
				xs[(at+1)%many] = bad
				wantError(t, xs, ys, api.ErrRange)
			}
		}
	}
}

// TestOutsideAndTwice has points that clash, before and behind a number that is
// outside, and such a number twice.
func TestOutsideAndTwice(t *testing.T) {
	for _, bad := range outside {
		wantError(t, []int{1, 1, bad}, []int{2, 3, 4}, api.ErrRange)
		wantError(t, []int{1, 1, 2}, []int{2, 3, bad}, api.ErrRange)
		wantError(t, []int{1, 1, 2}, []int{bad, 3, 4}, api.ErrRange)
		wantError(t, []int{1, 1}, []int{3, bad}, api.ErrRange)
		wantError(t, []int{1, 1}, []int{bad, bad}, api.ErrRange)
		wantError(t, []int{bad, 1, 1}, []int{2, 3, 4}, api.ErrRange)
		wantError(t, []int{bad, bad}, []int{2, 3}, api.ErrRange)
		wantError(t, []int{bad, bad}, []int{2, 2}, api.ErrRange)
		wantError(t, []int{7, 7, 7, 7, 7, bad}, []int{1, 1, 1, 1, 1, 1}, api.ErrRange)
		wantError(t, []int{7, 7, 7, 7, 7, 7}, []int{1, 1, 1, 1, 1, bad}, api.ErrRange)
	}
}

func TestTwice(t *testing.T) {
	for many := 2; many <= api.MaxDots; many++ {
		for i := range many {
			for j := range i {
				for _, x := range edges {
					xs, ys := apart(many, 8), mixed(many, 9)
					xs[i], xs[j] = x, x
					wantError(t, xs, ys, api.ErrClash)
					ys[i] = ys[j]
					wantError(t, xs, ys, api.ErrClash)
					wantError(t, xs, make([]int, many), api.ErrClash)
				}
			}
		}
		wantError(t, make([]int, many), make([]int, many), api.ErrClash)
		wantError(t, slices.Repeat([]int{api.Prime - 1}, many), mixed(many, 1), api.ErrClash)
	}
}

func TestSteps(t *testing.T) {
	for _, c := range []struct{ xs, ys, want []int }{
		{nil, nil, nil},
		{[]int{0}, []int{0}, []int{0}},
		{[]int{9_972}, []int{9_972}, []int{9_972}},
		{[]int{0, 1}, []int{5, 7}, []int{5, 2}},
		{[]int{1, 0}, []int{7, 5}, []int{7, 2}},
		{[]int{0, 1}, []int{7, 5}, []int{7, 9_971}},
		{[]int{0, 2}, []int{0, 1}, []int{0, 4_987}},
		{[]int{0, 9_972}, []int{0, 1}, []int{0, 9_972}},
		{[]int{9_972, 0}, []int{0, 9_972}, []int{0, 9_972}},
		{[]int{1, 2, 3}, []int{1, 4, 9}, []int{1, 3, 1}},
		{[]int{3, 1, 2}, []int{9, 1, 4}, []int{9, 4, 1}},
		{[]int{0, 1, 2, 3}, []int{0, 1, 8, 27}, []int{0, 1, 3, 1}},
		{[]int{0, 1, 2, 3}, []int{5, 7, 9, 11}, []int{5, 2, 0, 0}},
		{[]int{0, 1, 2, 3, 4, 5}, []int{6, 6, 6, 6, 6, 6}, []int{6, 0, 0, 0, 0, 0}},
		{[]int{0, 1, 2, 3, 4, 5}, []int{0, 0, 0, 0, 0, 0}, []int{0, 0, 0, 0, 0, 0}},
		{[]int{0, 1, 2, 3, 4, 5}, []int{0, 0, 0, 0, 0, 120}, []int{0, 0, 0, 0, 0, 1}},
		{[]int{0, 1, 2, 3, 4, 5}, []int{0, 1, 32, 243, 1_024, 3_125}, []int{0, 1, 15, 25, 10, 1}},
	} {
		wantSteps(t, c.xs, c.ys, c.want)
	}
}

func TestThrough(t *testing.T) {
	for _, c := range []struct{ xs, ys, want []int }{
		{nil, nil, nil},
		{[]int{}, []int{}, nil},
		{[]int{0}, []int{0}, nil},
		{[]int{7}, []int{0}, nil},
		{[]int{0}, []int{7}, []int{7}},
		{[]int{9_972}, []int{9_972}, []int{9_972}},
		{[]int{0, 1}, []int{5, 7}, []int{5, 2}},
		{[]int{1, 0}, []int{7, 5}, []int{5, 2}},
		{[]int{0, 1}, []int{7, 5}, []int{7, 9_971}},
		{[]int{3, 4}, []int{8, 8}, []int{8}},
		{[]int{3, 4}, []int{3, 4}, []int{0, 1}},
		{[]int{0, 9_972}, []int{0, 9_972}, []int{0, 1}},
		{[]int{0, 9_972}, []int{9_972, 0}, []int{9_972, 9_972}},
		{[]int{0, 2}, []int{0, 1}, []int{0, 4_987}},
		{[]int{1, 2, 3}, []int{1, 4, 9}, []int{0, 0, 1}},
		{[]int{0, 1, 2, 3}, []int{5, 7, 9, 11}, []int{5, 2}},
		{[]int{0, 1, 2, 3, 4}, []int{0, 1, 4, 9, 16}, []int{0, 0, 1}},
		{[]int{0, 1, 2, 3, 4, 5}, []int{6, 6, 6, 6, 6, 6}, []int{6}},
		{[]int{0, 1, 2, 3, 4, 5}, []int{0, 0, 0, 0, 0, 0}, nil},
		{[]int{0, 1, 2, 3, 4, 5}, []int{0, 1, 32, 243, 1_024, 3_125}, []int{0, 0, 0, 0, 0, 1}},
		{[]int{0, 1, 2, 3, 4, 5}, []int{0, 0, 0, 0, 0, 120}, []int{0, 24, 9_923, 35, 9_963, 1}},
	} {
		wantThrough(t, c.xs, c.ys, c.want)
	}
}

func TestNoPoints(t *testing.T) {
	spare := []int{1, 2, 3}
	for _, xs := range [][]int{nil, {}, spare[:0]} {
		for _, ys := range [][]int{nil, {}, spare[1:1]} {
			wantGood(t, xs, ys)
			wantSteps(t, xs, ys, nil)
			wantThrough(t, xs, ys, nil)
		}
	}
}

func TestOnePoint(t *testing.T) {
	for _, x := range edges {
		for y := range api.Prime {
			wantSteps(t, []int{x}, []int{y}, []int{y})
			wantThrough(t, []int{x}, []int{y}, short([]int{y}))
		}
	}
}

func TestTwoPoints(t *testing.T) {
	forOrders(2, edges, func(xs []int) {
		forLists(2, edges, func(ys []int) { checkPoints(t, xs, ys) })
	})
	for n := range api.Prime - 1 {
		checkPoints(t, []int{0, n + 1}, []int{1, 0})
		checkPoints(t, []int{n, n + 1}, []int{n + 1, n})
		checkPoints(t, []int{api.Prime - 1, n}, []int{0, api.Prime - 1})
	}
}

func TestFewPoints(t *testing.T) {
	forOrders(3, edges, func(xs []int) {
		forLists(3, []int{0, 1, 4_986, api.Prime - 1}, func(ys []int) { checkPoints(t, xs, ys) })
	})
	forOrders(4, []int{0, 1, 2, 5_000, api.Prime - 1}, func(xs []int) {
		forLists(4, []int{0, 1, api.Prime - 1}, func(ys []int) { checkPoints(t, xs, ys) })
	})
}

func TestMostPoints(t *testing.T) {
	for many := range api.MaxDots + 1 {
		for seed := range 300 {
			checkPoints(t, apart(many, seed), mixed(many, seed+1_000))
		}
	}
	few := []int{0, api.Prime - 1}
	for _, xs := range [][]int{{0, 1, 2, 3, 4, 5}, {9_972, 9_971, 9_970, 9_969, 9_968, 9_967}, apart(6, 10), {0, 9_972, 1, 9_971, 2, 9_970}} {
		forLists(api.MaxDots, few, func(ys []int) { checkPoints(t, xs, ys) })
	}
}

// TestSmallerDegree takes points from polynomials of all degrees, which have to
// be found again.
func TestSmallerDegree(t *testing.T) {
	for length := range api.MaxDots + 1 {
		for seed := range 100 {
			f := mixed(length, seed)
			if seed < 2 {
				f = slices.Repeat([]int{seed * (api.Prime - 1)}, length)
			}
			f = short(f)
			for many := length; many <= api.MaxDots; many++ {
				checkFound(t, f, apart(many, seed+7))
			}
		}
	}
}

// checkFound checks that interpolation finds a polynomial, and that the steps
// past its degree are zeros.
func checkFound(t *testing.T, f, xs []int) {
	t.Helper()
	ys := make([]int, len(xs))
	for i, x := range xs {
		ys[i] = plainAt(f, x)
	}
	wantThrough(t, xs, ys, f)
	steps, err := Steps(xs, ys)
	if err != nil || len(steps) != len(xs) || !slices.Equal(short(steps), short(steps[:len(f)])) {
		t.Fatalf("Steps(%v, %v) = %v, %v, of points on %v", xs, ys, steps, err, f)
	}
	if len(f) > 0 && steps[len(f)-1] != f[len(f)-1] {
		t.Fatalf("Steps(%v, %v) = %v, of points on %v", xs, ys, steps, f)
	}
}

func TestZeros(t *testing.T) {
	for many := range api.MaxDots + 1 {
		zeros := make([]int, many)
		for seed := range 100 {
			wantSteps(t, apart(many, seed), zeros, zeros)
			wantThrough(t, apart(many, seed), zeros, nil)
		}
	}
}

// TestOrders checks that the same points in another order lie on the same
// polynomial, that their last step is the same, and that all steps are as
// defined.
func TestOrders(t *testing.T) {
	xs, ys := []int{0, 9_972, 3, 4_000, 77, 1}, []int{5, 0, 9_972, 1, 1_234, 0}
	f, err := Through(xs, ys)
	if err != nil || len(f) != len(xs) {
		t.Fatalf("Through(%v, %v) = %v, %v", xs, ys, f, err)
	}
	forOrders(len(xs), []int{0, 1, 2, 3, 4, 5}, func(order []int) {
		var a, b []int
		for _, i := range order {
			a, b = append(a, xs[i]), append(b, ys[i])
		}
		wantThrough(t, a, b, f)
		wantSteps(t, a, b, plainSteps(a, b))
		if steps, _ := Steps(a, b); steps[len(steps)-1] != f[len(f)-1] {
			t.Fatalf("Steps(%v, %v) = %v, of points on %v", a, b, steps, f)
		}
	})
}

// TestFirstPoints checks that a step depends on no later point.
func TestFirstPoints(t *testing.T) {
	for seed := range 100 {
		xs, ys := apart(api.MaxDots, seed), mixed(api.MaxDots, seed+50)
		steps, err := Steps(xs, ys)
		if err != nil || len(steps) != len(xs) {
			t.Fatalf("Steps(%v, %v) = %v, %v", xs, ys, steps, err)
		}
		for many := range xs {
			wantSteps(t, xs[:many], ys[:many], steps[:many])
		}
	}
}

// TestArguments checks that lists stay as they are, with their spare capacity,
// whatever is done to the results, and that later calls do not depend on them.
func TestArguments(t *testing.T) {
	for range 2 {
		for many := range api.MaxDots + 2 {
			checkArguments(t, apart(many, 3), mixed(many, 4))
			checkArguments(t, apart(many, 3), make([]int, many))
			checkArguments(t, make([]int, many), mixed(many, 4))
			checkArguments(t, apart(many, 3), mixed(many+1, 4))
			checkArguments(t, apart(many, 3), slices.Repeat([]int{-1}, many))
		}
	}
	same := apart(api.MaxDots, 6)
	want := slices.Clone(same)
	wantThrough(t, same, same, []int{0, 1})
	wantSteps(t, same, same, []int{same[0], 1, 0, 0, 0, 0})
	if !slices.Equal(same, want) {
		t.Fatalf("argument %v became %v", want, same)
	}
}

// checkArguments calls all functions with two lists that have spare capacity,
// and overwrites all that the results refer to.
func checkArguments(t *testing.T, xs, ys []int) {
	t.Helper()
	a := append(slices.Clone(xs), 77, 78)
	b := append(slices.Clone(ys), 79, 80)
	wantA, wantB := slices.Clone(a), slices.Clone(b)
	xs, ys = a[:len(xs)], b[:len(ys)]
	Check(xs, ys)
	for range 2 {
		steps, stepsErr := Steps(xs, ys)
		f, err := Through(xs, ys)
		if (err == nil) != (stepsErr == nil) {
			t.Fatalf("Steps(%v, %v) and Through have errors %v and %v", xs, ys, stepsErr, err)
		}
		overwrite(steps)
		overwrite(f)
	}
	if !slices.Equal(a, wantA) || !slices.Equal(b, wantB) {
		t.Fatalf("arguments %v and %v became %v and %v", wantA, wantB, a, b)
	}
	if Check(xs, ys) == nil {
		checkPoints(t, xs, ys)
	}
}

// overwrite writes to a list and its spare capacity.
func overwrite(l []int) {
	l = l[:cap(l)]
	for i := range l {
		l[i] = -99
	}
}
