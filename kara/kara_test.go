package kara

import (
	"errors"
	"math"
	"slices"
	"testing"

	"rankmere/api"
)

// outside are numbers that are no coefficients.
var outside = []int{
	api.MaxWhole + 1, -api.MaxWhole - 1, api.MaxWhole + 2, 2 * api.MaxWhole, -2 * api.MaxWhole,
	api.MaxNum, -api.MaxNum, 1 << 32, 1<<32 + 5, -1 << 32, math.MaxInt, math.MinInt, math.MinInt + 1,
}

// edges are coefficients at their limits, and some others of all sizes.
var edges = []int{
	-api.MaxWhole, -api.MaxWhole + 1, -512, -77, -2, -1, 0, 1, 2, 3, 10, 255, 256, api.MaxWhole - 1, api.MaxWhole,
}

// goods are the numbers of coefficients that lists may have.
var goods = []int{1, 2, 4, 8, 16}

// counts are the powers of three that belong to goods.
var counts = []int{1, 3, 9, 27, 81}

// plainCount returns the number of multiplications for lists of this length.
func plainCount(length int) int {
	return counts[slices.Index(goods, length)]
}

// plainProduct multiplies each coefficient with each other one.
func plainProduct(a, b []int) []int {
	product := make([]int, 2*len(a)-1)
	for i, c := range a {
		for j, d := range b {
			product[i+j] += c * d
		}
	}
	return product
}

// wantMul fails the test unless the lists are good ones, and Mul returns this,
// the number of multiplications that belongs to the length, and no error.
func wantMul(t *testing.T, a, b, want []int) {
	t.Helper()
	if err := Check(a, b); err != nil {
		t.Fatalf("Check(%v, %v) = %v", a, b, err)
	}
	got, count, err := Mul(a, b)
	if !slices.Equal(got, want) || count != plainCount(len(a)) || err != nil {
		t.Fatalf("Mul(%v, %v) = %v, %d, %v, want %v, %d", a, b, got, count, err, want, plainCount(len(a)))
	}
}

// checkMul compares the product with its definition.
func checkMul(t *testing.T, a, b []int) {
	t.Helper()
	wantMul(t, a, b, plainProduct(a, b))
}

// wantError fails the test unless both functions return nothing but this error.
func wantError(t *testing.T, a, b []int, want api.Errno) {
	t.Helper()
	if err := Check(a, b); !errors.Is(err, want) {
		t.Fatalf("Check(%v, %v) = %v, want %v", a, b, err, want)
	}
	if got, count, err := Mul(a, b); len(got) != 0 || count != 0 || !errors.Is(err, want) {
		t.Fatalf("Mul(%v, %v) = %v, %d, %v, want nothing and %v", a, b, got, count, err, want)
	}
}

// mixed returns a list of coefficients that follow no plain rule; another seed
// makes another one.
func mixed(length, seed int) []int {
	l := make([]int, length)
	state := uint32(seed)*2_654_435_761 + 12_345
	for i := range l {
		state = state*1_664_525 + 1_013_904_223
		l[i] = int(state>>8)%(2*api.MaxWhole+1) - api.MaxWhole
	}
	return l
}

// with returns a list of zeros but for one coefficient.
func with(length, at, c int) []int {
	l := make([]int, length)
	l[at] = c
	return l
}

// forLists calls f with all lists of this length, out of these numbers.
func forLists(length int, of []int, f func(list []int)) {
	if length == 0 {
		f(nil)
		return
	}
	forLists(length-1, of, func(list []int) {
		for _, n := range of {
			f(append(slices.Clone(list), n))
		}
	})
}

func TestMul(t *testing.T) {
	for _, c := range []struct{ a, b, want []int }{
		{[]int{3}, []int{4}, []int{12}},
		{[]int{0}, []int{0}, []int{0}},
		{[]int{-3}, []int{4}, []int{-12}},
		{[]int{-1_000}, []int{-1_000}, []int{1_000_000}},
		{[]int{-1_000}, []int{1_000}, []int{-1_000_000}},
		{[]int{1, 1}, []int{1, 1}, []int{1, 2, 1}},
		{[]int{1, 2}, []int{3, 4}, []int{3, 10, 8}},
		{[]int{3, 4}, []int{1, 2}, []int{3, 10, 8}},
		{[]int{1, -1}, []int{1, 1}, []int{1, 0, -1}},
		{[]int{5, 0}, []int{7, 0}, []int{35, 0, 0}},
		{[]int{0, 5}, []int{0, 7}, []int{0, 0, 35}},
		{[]int{0, 5}, []int{7, 0}, []int{0, 35, 0}},
		{[]int{0, 0}, []int{7, 8}, []int{0, 0, 0}},
		{[]int{-1_000, 1_000}, []int{1_000, -1_000}, []int{-1_000_000, 2_000_000, -1_000_000}},
		{[]int{1, 2, 3, 4}, []int{5, 6, 7, 8}, []int{5, 16, 34, 60, 61, 52, 32}},
		{[]int{1, 0, 0, 0}, []int{0, 0, 0, 2}, []int{0, 0, 0, 2, 0, 0, 0}},
		{[]int{0, 0, 0, 0}, []int{0, 0, 0, 0}, []int{0, 0, 0, 0, 0, 0, 0}},
		{[]int{1, 0, 0, 0}, []int{1, 0, 0, 0}, []int{1, 0, 0, 0, 0, 0, 0}},
		{[]int{1, 3, 3, 1}, []int{1, -3, 3, -1}, []int{1, 0, -3, 0, 3, 0, -1}},
		{
			[]int{1, 1, 1, 1, 1, 1, 1, 1}, []int{1, 1, 1, 1, 1, 1, 1, 1},
			[]int{1, 2, 3, 4, 5, 6, 7, 8, 7, 6, 5, 4, 3, 2, 1},
		},
		{
			[]int{1, 10, 100, 1_000, 0, 0, 0, 0}, []int{1, 0, 0, 0, 0, 0, 0, -1},
			[]int{1, 10, 100, 1_000, 0, 0, 0, -1, -10, -100, -1_000, 0, 0, 0, 0},
		},
		{
			[]int{1, 1, 1, 1, 1, 1, 1, 1, 1, 1, 1, 1, 1, 1, 1, 1}, []int{-1, 1, 0, 0, 0, 0, 0, 0, 0, 0, 0, 0, 0, 0, 0, 0},
			[]int{-1, 0, 0, 0, 0, 0, 0, 0, 0, 0, 0, 0, 0, 0, 0, 0, 1, 0, 0, 0, 0, 0, 0, 0, 0, 0, 0, 0, 0, 0, 0},
		},
	} {
		wantMul(t, c.a, c.b, c.want)
	}
}

func TestOneCoefficient(t *testing.T) {
	for a := -api.MaxWhole; a <= api.MaxWhole; a++ {
		for _, b := range edges {
			wantMul(t, []int{a}, []int{b}, []int{a * b})
			wantMul(t, []int{b}, []int{a}, []int{a * b})
		}
	}
}

func TestFewCoefficients(t *testing.T) {
	forLists(2, edges, func(a []int) {
		forLists(2, edges, func(b []int) { checkMul(t, a, b) })
	})
	forLists(4, []int{-api.MaxWhole, 0, 7, api.MaxWhole}, func(a []int) {
		forLists(4, []int{-api.MaxWhole, 0, 1, api.MaxWhole}, func(b []int) { checkMul(t, a, b) })
	})
	forLists(8, []int{-api.MaxWhole, api.MaxWhole}, func(a []int) {
		forLists(8, []int{0, -api.MaxWhole}, func(b []int) { checkMul(t, a, b) })
	})
}

func TestAllLengths(t *testing.T) {
	for _, length := range goods {
		for seed := range 500 {
			checkMul(t, mixed(length, seed), mixed(length, seed+1_000))
			checkMul(t, mixed(length, seed), mixed(length, seed))
		}
	}
}

// TestLimits has the least and the greatest coefficients in all places, and the
// greatest products and sums of them.
func TestLimits(t *testing.T) {
	for _, length := range goods {
		for _, c := range []int{-api.MaxWhole, api.MaxWhole} {
			for _, d := range []int{-api.MaxWhole, api.MaxWhole} {
				full, other := slices.Repeat([]int{c}, length), slices.Repeat([]int{d}, length)
				checkMul(t, full, other)
				for at := range length {
					other[at] = -other[at]
					checkMul(t, full, other)
					checkMul(t, other, full)
					l := mixed(length, at)
					l[at] = c
					checkMul(t, l, full)
					checkMul(t, full, l)
				}
			}
		}
	}
}

// TestSingleProducts has one coefficient in each list that is not zero, in all
// places.
func TestSingleProducts(t *testing.T) {
	for _, length := range goods {
		for i := range length {
			for j := range length {
				for _, c := range edges {
					a, b := with(length, i, c), with(length, j, -7)
					wantMul(t, a, b, with(2*length-1, i+j, -7*c))
					wantMul(t, b, a, with(2*length-1, i+j, -7*c))
				}
			}
		}
	}
}

// TestZeros has zeros at the beginning, at the end and everywhere, which neither
// shorten the product nor save multiplications.
func TestZeros(t *testing.T) {
	for _, length := range goods {
		wantMul(t, make([]int, length), make([]int, length), make([]int, 2*length-1))
		for from := range length + 1 {
			a := mixed(length, from)
			clear(a[from:])
			wantMul(t, a, make([]int, length), make([]int, 2*length-1))
			wantMul(t, make([]int, length), a, make([]int, 2*length-1))
			for to := range length + 1 {
				end, begin := mixed(length, to+50), mixed(length, to+80)
				clear(end[to:])
				clear(begin[:to])
				checkMul(t, a, end)
				checkMul(t, a, begin)
				checkMul(t, begin, a)
				checkMul(t, begin, begin)
			}
		}
	}
}

// TestCount checks that the number of multiplications depends on nothing but the
// length.
func TestCount(t *testing.T) {
	for i, length := range goods {
		for _, l := range [][]int{
			make([]int, length), with(length, 0, 1), with(length, length-1, -1), mixed(length, 1),
			slices.Repeat([]int{1}, length), slices.Repeat([]int{api.MaxWhole}, length),
		} {
			for _, other := range [][]int{make([]int, length), with(length, length/2, 5), mixed(length, 2), l} {
				if _, count, err := Mul(l, other); count != counts[i] || err != nil {
					t.Fatalf("Mul(%v, %v) = _, %d, %v, want %d", l, other, count, err, counts[i])
				}
			}
		}
	}
}

func TestNoCoefficients(t *testing.T) {
	spare := []int{1, 2, 3}
	for _, a := range [][]int{nil, {}, spare[:0]} {
		for length := range 40 {
			wantError(t, a, mixed(length, 1), api.ErrNone)
			for _, bad := range outside {
				wantError(t, a, slices.Repeat([]int{bad}, length), api.ErrNone)
			}
		}
		wantError(t, a, nil, api.ErrNone)
		wantError(t, a, spare[1:1], api.ErrNone)
	}
}

func TestTooManyCoefficients(t *testing.T) {
	for _, length := range []int{api.MaxLong + 1, api.MaxLong + 2, 2*api.MaxLong - 1, 2 * api.MaxLong, 64, 100, 1 << 12} {
		for _, other := range []int{0, 1, api.MaxLong - 1, api.MaxLong, api.MaxLong + 1, length - 1, length, length + 1} {
			wantError(t, mixed(length, 1), mixed(other, 2), api.ErrFull)
			wantError(t, make([]int, length), make([]int, other), api.ErrFull)
			for _, bad := range outside {
				wantError(t, slices.Repeat([]int{bad}, length), slices.Repeat([]int{bad}, other), api.ErrFull)
			}
		}
	}
}

func TestOtherLengths(t *testing.T) {
	for length := 1; length <= api.MaxLong; length++ {
		for other := range 2*api.MaxLong + 2 {
			if length == other && slices.Contains(goods, length) {
				continue
			}
			wantError(t, mixed(length, 1), mixed(other, 2), api.ErrShape)
			wantError(t, make([]int, length), make([]int, other), api.ErrShape)
			for _, bad := range outside {
				wantError(t, slices.Repeat([]int{bad}, length), mixed(other, 3), api.ErrShape)
				wantError(t, mixed(length, 1), slices.Repeat([]int{bad}, other), api.ErrShape)
			}
		}
		wantError(t, mixed(length, 1), nil, api.ErrShape)
	}
	// The memory behind the lists is no part of them.
	long := mixed(api.MaxLong, 3)
	wantError(t, long[:4], long[:8], api.ErrShape)
	wantError(t, long[:8], long[:4], api.ErrShape)
	wantError(t, long[:3], long[:3], api.ErrShape)
}

func TestOutside(t *testing.T) {
	for _, length := range goods {
		for at := range length {
			for _, bad := range outside {
				a, b := mixed(length, 4), mixed(length, 5)
				a[at] = bad
				wantError(t, a, b, api.ErrRange)
				wantError(t, b, a, api.ErrRange)
				wantError(t, a, a, api.ErrRange)
				wantError(t, with(length, at, bad), make([]int, length), api.ErrRange)
				wantError(t, make([]int, length), with(length, at, bad), api.ErrRange)
				b[length-1-at] = bad
				wantError(t, a, b, api.ErrRange)
			}
		}
	}
}

// TestArguments checks that lists stay as they are, with their spare capacity,
// whatever is done to the results, and that later calls do not depend on them.
func TestArguments(t *testing.T) {
	for range 2 {
		for length := range api.MaxLong + 2 {
			checkArguments(t, mixed(length, 3), mixed(length, 4))
			checkArguments(t, mixed(length, 3), make([]int, length))
			checkArguments(t, mixed(length, 3), mixed(length+1, 4))
			checkArguments(t, mixed(length, 3), slices.Repeat([]int{api.MaxWhole + 1}, length))
		}
	}
	// Both lists may be the same memory, or overlap.
	same := mixed(api.MaxLong, 6)
	want := slices.Clone(same)
	checkMul(t, same, same)
	checkMul(t, same[:8], same[4:12])
	checkMul(t, same[1:2], same[:1])
	if !slices.Equal(same, want) {
		t.Fatalf("argument %v became %v", want, same)
	}
}

// checkArguments calls both functions with two lists that have spare capacity,
// and overwrites all that the results refer to.
func checkArguments(t *testing.T, a, b []int) {
	t.Helper()
	wholeA := append(slices.Clone(a), 77, 78)
	wholeB := append(slices.Clone(b), 79, 80)
	wantA, wantB := slices.Clone(wholeA), slices.Clone(wholeB)
	a, b = wholeA[:len(a)], wholeB[:len(b)]
	good := Check(a, b) == nil
	for range 2 {
		product, _, err := Mul(a, b)
		if (err == nil) != good {
			t.Fatalf("Mul(%v, %v) has the error %v, and Check has another", a, b, err)
		}
		product = product[:cap(product)]
		for i := range product {
			product[i] = -99
		}
	}
	if !slices.Equal(wholeA, wantA) || !slices.Equal(wholeB, wantB) {
		t.Fatalf("arguments %v and %v became %v and %v", wantA, wantB, wholeA, wholeB)
	}
	if good {
		checkMul(t, a, b)
	}
}
