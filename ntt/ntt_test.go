package ntt

import (
	"errors"
	"math"
	"math/big"
	"slices"
	"testing"

	"rankmere/api"
)

// outside are numbers that are no elements.
var outside = []int{
	-1, -2, -64, -api.Small + 1, -api.Small, -api.Small - 1, api.Small, api.Small + 1, 2*api.Small - 1, 2 * api.Small,
	api.Prime - 1, api.MaxNum, -api.MaxNum, 1 << 32, 1<<32 + 5, -1 << 32, math.MaxInt, math.MinInt, math.MinInt + 1,
}

// edges are elements at their limits, and some others of all sizes.
var edges = []int{
	0, 1, 2, 3, 8, 63, 64, 77, 127, 128, 129, 193, 225, 241, 253, 254, api.Small - 2, api.Small - 1,
}

// plainThere computes the transform as it is defined, with numbers that have no
// limits.
func plainThere(l []int) []int {
	transform := make([]int, len(l))
	for i := range transform {
		sum := new(big.Int)
		for k, n := range l {
			power := new(big.Int).Exp(big.NewInt(64), big.NewInt(int64(i*k)), nil)
			sum.Add(sum, power.Mul(power, big.NewInt(int64(n))))
		}
		transform[i] = int(sum.Mod(sum, big.NewInt(257)).Int64())
	}
	return transform
}

// plainFold adds up all products of elements, first without going round.
func plainFold(a, b []int) []int {
	long := make([]int, 2*api.Length)
	for j, m := range a {
		for k, n := range b {
			long[j+k] += m * n
		}
	}
	fold := make([]int, api.Length)
	for i := range fold {
		fold[i] = (long[i] + long[i+api.Length]) % 257
	}
	return fold
}

// proper tells whether a list is as a result has to be.
func proper(l []int) bool {
	for _, n := range l {
		if n < 0 || n > 256 {
			return false
		}
	}
	return len(l) == 8
}

// wantThere fails the test unless the list is a good one, and There returns this
// and no error.
func wantThere(t *testing.T, l, want []int) {
	t.Helper()
	if err := Check(l); err != nil {
		t.Fatalf("Check(%v) = %v", l, err)
	}
	if got, err := There(l); !slices.Equal(got, want) || err != nil {
		t.Fatalf("There(%v) = %v, %v, want %v", l, got, err, want)
	}
}

// wantBack does what wantThere does, for Back.
func wantBack(t *testing.T, l, want []int) {
	t.Helper()
	if err := Check(l); err != nil {
		t.Fatalf("Check(%v) = %v", l, err)
	}
	if got, err := Back(l); !slices.Equal(got, want) || err != nil {
		t.Fatalf("Back(%v) = %v, %v, want %v", l, got, err, want)
	}
}

// wantFold does what wantThere does, for Fold.
func wantFold(t *testing.T, a, b, want []int) {
	t.Helper()
	if errA, errB := Check(a), Check(b); errA != nil || errB != nil {
		t.Fatalf("Check(%v), Check(%v) = %v, %v", a, b, errA, errB)
	}
	if got, err := Fold(a, b); !slices.Equal(got, want) || err != nil {
		t.Fatalf("Fold(%v, %v) = %v, %v, want %v", a, b, got, err, want)
	}
}

// checkList compares the transform with its definition, and the inverse
// transform with the list that it has to come from.
func checkList(t *testing.T, l []int) {
	t.Helper()
	there := plainThere(l)
	wantThere(t, l, there)
	wantBack(t, there, l)
	back, err := Back(l)
	if err != nil || !proper(back) || !slices.Equal(plainThere(back), l) {
		t.Fatalf("Back(%v) = %v, %v, whose transform is %v", l, back, err, plainThere(back))
	}
	wantThere(t, back, l)
}

// checkFold compares the convolution with its definition.
func checkFold(t *testing.T, a, b []int) {
	t.Helper()
	wantFold(t, a, b, plainFold(a, b))
}

// wantError fails the test unless the functions of one list return nothing but
// this error.
func wantError(t *testing.T, l []int, want api.Errno) {
	t.Helper()
	if err := Check(l); !errors.Is(err, want) {
		t.Fatalf("Check(%v) = %v, want %v", l, err, want)
	}
	if got, err := There(l); len(got) != 0 || !errors.Is(err, want) {
		t.Fatalf("There(%v) = %v, %v, want nothing and %v", l, got, err, want)
	}
	if got, err := Back(l); len(got) != 0 || !errors.Is(err, want) {
		t.Fatalf("Back(%v) = %v, %v, want nothing and %v", l, got, err, want)
	}
}

// wantFoldError fails the test unless Fold returns nothing but this error.
func wantFoldError(t *testing.T, a, b []int, want api.Errno) {
	t.Helper()
	if got, err := Fold(a, b); len(got) != 0 || !errors.Is(err, want) {
		t.Fatalf("Fold(%v, %v) = %v, %v, want nothing and %v", a, b, got, err, want)
	}
}

// mixed returns a list of elements that follow no plain rule; another seed makes
// another one.
func mixed(length, seed int) []int {
	l := make([]int, length)
	state := uint32(seed)*2_654_435_761 + 12_345
	for i := range l {
		state = state*1_664_525 + 1_013_904_223
		l[i] = int(state>>8) % api.Small
	}
	return l
}

// with returns a list of zeros but for one element.
func with(at, n int) []int {
	l := make([]int, api.Length)
	l[at] = n
	return l
}

// forLists calls f with all lists of this length, out of these numbers.
func forLists(length int, of []int, f func(list []int)) {
	if length == 0 {
		f(nil)
		return
	}
	forLists(length-1, of, func(list []int) {
		for _, n := range of {
			f(append(slices.Clone(list), n))
		}
	})
}

// pairs are lists and their transforms.
var pairs = []struct{ list, transform []int }{
	{[]int{0, 0, 0, 0, 0, 0, 0, 0}, []int{0, 0, 0, 0, 0, 0, 0, 0}},
	{[]int{1, 0, 0, 0, 0, 0, 0, 0}, []int{1, 1, 1, 1, 1, 1, 1, 1}},
	{[]int{256, 0, 0, 0, 0, 0, 0, 0}, []int{256, 256, 256, 256, 256, 256, 256, 256}},
	{[]int{0, 1, 0, 0, 0, 0, 0, 0}, []int{1, 64, 241, 4, 256, 193, 16, 253}},
	{[]int{0, 0, 1, 0, 0, 0, 0, 0}, []int{1, 241, 256, 16, 1, 241, 256, 16}},
	{[]int{0, 0, 0, 0, 1, 0, 0, 0}, []int{1, 256, 1, 256, 1, 256, 1, 256}},
	{[]int{0, 0, 0, 0, 0, 0, 0, 1}, []int{1, 253, 16, 193, 256, 4, 241, 64}},
	{[]int{0, 0, 0, 0, 0, 0, 0, 256}, []int{256, 4, 241, 64, 1, 253, 16, 193}},
	{[]int{1, 1, 1, 1, 1, 1, 1, 1}, []int{8, 0, 0, 0, 0, 0, 0, 0}},
	{[]int{256, 256, 256, 256, 256, 256, 256, 256}, []int{249, 0, 0, 0, 0, 0, 0, 0}},
	{[]int{1, 0, 1, 0, 1, 0, 1, 0}, []int{4, 0, 0, 0, 4, 0, 0, 0}},
	{[]int{1, 256, 1, 256, 1, 256, 1, 256}, []int{0, 0, 0, 0, 8, 0, 0, 0}},
	{[]int{1, 64, 241, 4, 256, 193, 16, 253}, []int{0, 0, 0, 0, 0, 0, 0, 8}},
	{[]int{225, 225, 225, 225, 225, 225, 225, 225}, []int{1, 0, 0, 0, 0, 0, 0, 0}},
}

func TestPairs(t *testing.T) {
	for _, c := range pairs {
		wantThere(t, c.list, c.transform)
		wantBack(t, c.transform, c.list)
		checkList(t, c.list)
		checkList(t, c.transform)
	}
}

// TestSingleElement has one element that is not zero, each one in each place.
func TestSingleElement(t *testing.T) {
	for at := range api.Length {
		for n := range api.Small {
			checkList(t, with(at, n))
		}
	}
}

// TestEqualElements has the same element in all places, and another one in one.
func TestEqualElements(t *testing.T) {
	for _, n := range edges {
		same := slices.Repeat([]int{n}, api.Length)
		wantThere(t, same, with(0, n*api.Length%api.Small))
		wantBack(t, same, with(0, n))
		for at := range same {
			for _, other := range edges {
				l := slices.Clone(same)
				l[at] = other
				checkList(t, l)
			}
		}
	}
}

func TestManyLists(t *testing.T) {
	forLists(api.Length, []int{0, api.Small - 1}, func(l []int) { checkList(t, l) })
	forLists(api.Length, []int{1, api.Small - 1}, func(l []int) { checkList(t, l) })
	for seed := range 2_000 {
		checkList(t, mixed(api.Length, seed))
	}
}

// TestUndoing checks that There and Back undo each other, whatever they do.
func TestUndoing(t *testing.T) {
	check := func(l []int) {
		there, err := There(l)
		if err != nil {
			t.Fatalf("There(%v) = %v", l, err)
		}
		wantBack(t, there, l)
		back, err := Back(l)
		if err != nil {
			t.Fatalf("Back(%v) = %v", l, err)
		}
		wantThere(t, back, l)
	}
	forLists(api.Length, []int{0, 1, api.Small - 1}, check)
	for seed := range 20_000 {
		check(mixed(api.Length, seed))
	}
}

func TestFold(t *testing.T) {
	zeros := make([]int, api.Length)
	for _, c := range []struct{ a, b, want []int }{
		{zeros, zeros, zeros},
		{with(0, 1), with(0, 1), with(0, 1)},
		{with(1, 1), with(1, 1), with(2, 1)},
		{with(3, 2), with(4, 5), with(7, 10)},
		{with(4, 2), with(4, 5), with(0, 10)},
		{with(7, 2), with(1, 5), with(0, 10)},
		{with(7, 16), with(7, 16), with(6, 256)},
		{with(7, 256), with(7, 256), with(6, 1)},
		{with(5, 64), with(6, 4), with(3, 256)},
		{with(0, 256), with(0, 2), with(0, 255)},
		{[]int{1, 1, 0, 0, 0, 0, 0, 0}, []int{1, 1, 0, 0, 0, 0, 0, 0}, []int{1, 2, 1, 0, 0, 0, 0, 0}},
		{[]int{1, 2, 3, 4, 0, 0, 0, 0}, []int{5, 6, 7, 8, 0, 0, 0, 0}, []int{5, 16, 34, 60, 61, 52, 32, 0}},
		{[]int{0, 0, 1, 2, 3, 4, 0, 0}, []int{0, 0, 5, 6, 7, 8, 0, 0}, []int{61, 52, 32, 0, 5, 16, 34, 60}},
		{[]int{1, 2, 3, 4, 5, 6, 7, 8}, with(1, 1), []int{8, 1, 2, 3, 4, 5, 6, 7}},
		{[]int{1, 2, 3, 4, 5, 6, 7, 8}, with(7, 1), []int{2, 3, 4, 5, 6, 7, 8, 1}},
		{[]int{1, 1, 1, 1, 1, 1, 1, 1}, []int{1, 2, 3, 4, 5, 6, 7, 8}, []int{36, 36, 36, 36, 36, 36, 36, 36}},
		{[]int{1, 256, 0, 0, 0, 0, 0, 0}, []int{1, 1, 1, 1, 1, 1, 1, 1}, zeros},
		{[]int{256, 256, 256, 256, 256, 256, 256, 256}, []int{1, 1, 1, 1, 1, 1, 1, 1}, []int{249, 249, 249, 249, 249, 249, 249, 249}},
		{[]int{256, 256, 256, 256, 256, 256, 256, 256}, []int{256, 256, 256, 256, 256, 256, 256, 256}, []int{8, 8, 8, 8, 8, 8, 8, 8}},
	} {
		wantFold(t, c.a, c.b, c.want)
		wantFold(t, c.b, c.a, c.want)
	}
}

// TestFoldSingleElements has one element in each list that is not zero, in all
// places, so that the sum of places is below Length, Length, or more.
func TestFoldSingleElements(t *testing.T) {
	for j := range api.Length {
		for k := range api.Length {
			for _, m := range edges {
				for _, n := range edges {
					wantFold(t, with(j, m), with(k, n), with((j+k)%api.Length, m*n%api.Small))
				}
			}
		}
	}
}

func TestFoldLists(t *testing.T) {
	zeros, full := make([]int, api.Length), slices.Repeat([]int{api.Small - 1}, api.Length)
	forLists(api.Length, []int{0, api.Small - 1}, func(a []int) {
		wantFold(t, a, zeros, zeros)
		wantFold(t, zeros, a, zeros)
		checkFold(t, a, full)
		checkFold(t, full, a)
		forLists(api.Length, []int{0, 1}, func(b []int) { checkFold(t, a, b) })
	})
	for seed := range 10_000 {
		a, b := mixed(api.Length, seed), mixed(api.Length, seed+20_000)
		checkFold(t, a, b)
		checkFold(t, a, a)
		checkFold(t, a, full)
		checkFold(t, full, b)
		wantFold(t, zeros, b, zeros)
	}
}

// lengths are numbers of elements that no list may have.
var lengths = []int{
	0, 1, 2, 3, 4, 5, 6, 7, 9, 10, 11, 12, 13, 14, 15, 16, 17, 24, 32, 64, 100, 256, 257, 264, 1 << 12,
}

func TestOtherLengths(t *testing.T) {
	good := mixed(api.Length, 5)
	for _, length := range lengths {
		for _, l := range [][]int{
			make([]int, length), mixed(length, 1), slices.Repeat([]int{1}, length), slices.Repeat([]int{api.Small - 1}, length),
		} {
			wantError(t, l, api.ErrShape)
			wantFoldError(t, l, good, api.ErrShape)
			wantFoldError(t, good, l, api.ErrShape)
			wantFoldError(t, l, l, api.ErrShape)
		}
		// The length comes before the elements.
		for _, bad := range outside {
			all, last := slices.Repeat([]int{bad}, length), mixed(length, 2)
			if length > 0 {
				last[length-1] = bad
			}
			for _, l := range [][]int{all, last} {
				wantError(t, l, api.ErrShape)
				wantFoldError(t, l, good, api.ErrShape)
				wantFoldError(t, good, l, api.ErrShape)
			}
		}
	}
}

// TestSpareCapacity checks that the memory behind a list is no part of it.
func TestSpareCapacity(t *testing.T) {
	spare := mixed(3*api.Length, 3)
	for length := range len(spare) + 1 {
		if length == api.Length {
			checkList(t, spare[:length])
			continue
		}
		wantError(t, spare[:length], api.ErrShape)
		wantFoldError(t, spare[:length], spare[:api.Length], api.ErrShape)
		wantFoldError(t, spare[:api.Length], spare[:length], api.ErrShape)
	}
	wantError(t, nil, api.ErrShape)
	wantFoldError(t, nil, nil, api.ErrShape)
	wantFoldError(t, nil, spare[:api.Length], api.ErrShape)
	wantFoldError(t, spare[:api.Length], nil, api.ErrShape)
	spare[api.Length] = -1
	checkList(t, spare[:api.Length])
	checkFold(t, spare[:api.Length], spare[:api.Length])
}

func TestOutside(t *testing.T) {
	good := mixed(api.Length, 6)
	for _, bad := range outside {
		for at := range api.Length {
			for _, l := range [][]int{with(at, bad), mixed(api.Length, 7), slices.Repeat([]int{api.Small - 1}, api.Length)} {
				l[at] = bad
				wantError(t, l, api.ErrRange)
				wantFoldError(t, l, good, api.ErrRange)
				wantFoldError(t, good, l, api.ErrRange)
				wantFoldError(t, l, l, api.ErrRange)
			}
		}
		wantError(t, slices.Repeat([]int{bad}, api.Length), api.ErrRange)
	}
	// All others are elements, in all places.
	for n := range api.Small {
		for at := range api.Length {
			l := slices.Clone(good)
			l[at] = n
			if err := Check(l); err != nil {
				t.Fatalf("Check(%v) = %v", l, err)
			}
		}
	}
}

// TestFoldErrors checks that the errors of a come before those of b.
func TestFoldErrors(t *testing.T) {
	for _, bad := range outside {
		for at := range api.Length {
			for _, length := range lengths {
				for _, l := range [][]int{mixed(length, 1), slices.Repeat([]int{bad}, length)} {
					wantFoldError(t, with(at, bad), l, api.ErrRange)
					wantFoldError(t, l, with(at, bad), api.ErrShape)
				}
			}
		}
	}
}

// TestArguments checks that lists stay as they are, with their spare capacity,
// whatever is done to the results, and that later calls do not depend on them.
func TestArguments(t *testing.T) {
	for range 2 {
		for length := range 2*api.Length + 1 {
			checkArguments(t, mixed(length, 3), mixed(length, 4))
			checkArguments(t, mixed(length, 3), make([]int, length))
			checkArguments(t, mixed(length, 3), mixed(api.Length, 4))
			checkArguments(t, mixed(api.Length, 3), mixed(length, 4))
			checkArguments(t, mixed(length, 3), slices.Repeat([]int{api.Small}, length))
		}
	}
	// Both lists may be the same memory, or overlap.
	same := mixed(2*api.Length, 6)
	want := slices.Clone(same)
	checkFold(t, same[:8], same[:8])
	checkFold(t, same[:8], same[4:12])
	checkFold(t, same[5:13], same[2:10])
	if !slices.Equal(same, want) {
		t.Fatalf("argument %v became %v", want, same)
	}
}

// checkArguments calls all functions with two lists that have spare capacity,
// and overwrites all that the results refer to.
func checkArguments(t *testing.T, a, b []int) {
	t.Helper()
	wholeA := append(slices.Clone(a), 77, 78)
	wholeB := append(slices.Clone(b), 79, 80)
	wantA, wantB := slices.Clone(wholeA), slices.Clone(wholeB)
	a, b = wholeA[:len(a)], wholeB[:len(b)]
	goodA, goodB := Check(a) == nil, Check(b) == nil
	for range 2 {
		there, errThere := There(a)
		back, errBack := Back(a)
		fold, errFold := Fold(a, b)
		if (errThere == nil) != goodA || (errBack == nil) != goodA || (errFold == nil) != (goodA && goodB) {
			t.Fatalf("%v and %v have the errors %v, %v and %v, and Check has others", a, b, errThere, errBack, errFold)
		}
		for _, l := range [][]int{there, back, fold} {
			l = l[:cap(l)]
			for i := range l {
				l[i] = -99
			}
		}
	}
	if !slices.Equal(wholeA, wantA) || !slices.Equal(wholeB, wantB) {
		t.Fatalf("arguments %v and %v became %v and %v", wantA, wantB, wholeA, wholeB)
	}
	if goodA {
		checkList(t, a)
	}
	if goodA && goodB {
		checkFold(t, a, b)
	}
}

// TestResults checks that results of several calls do not share memory.
func TestResults(t *testing.T) {
	a, b := mixed(api.Length, 8), mixed(api.Length, 9)
	var results, want [][]int
	for range 2 {
		there, _ := There(a)
		back, _ := Back(a)
		fold, _ := Fold(a, b)
		results = append(results, there, back, fold)
	}
	for _, l := range results {
		want = append(want, slices.Clone(l))
	}
	for i, l := range results {
		for k := range l {
			l[k] = -99
		}
		for j := i + 1; j < len(results); j++ {
			if !slices.Equal(results[j], want[j]) {
				t.Fatalf("result %d changed from %v to %v with result %d", j, want[j], results[j], i)
			}
		}
	}
}
