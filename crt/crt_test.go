package crt

import (
	"errors"
	"math"
	"slices"
	"testing"

	"rankmere/api"
)

// badMods are numbers that are no moduli.
var badMods = []int{
	0, -1, -2, -5, -api.MaxMod, api.MaxMod + 1, api.MaxMod + 2, 1_000, api.Prime, api.MaxNum,
	1 << 32, 1<<32 + 5, -1 << 32, math.MaxInt, math.MinInt,
}

// wantResult fails the test unless Solve returns these numbers and no error.
func wantResult(t *testing.T, rests, mods []int, x, step int) {
	t.Helper()
	gotX, gotStep, err := Solve(rests, mods)
	if gotX != x || gotStep != step || err != nil {
		t.Fatalf("Solve(%v, %v) = %d, %d, %v, want %d, %d", rests, mods, gotX, gotStep, err, x, step)
	}
}

// wantError fails the test unless Solve returns zeros and this error.
func wantError(t *testing.T, rests, mods []int, want api.Errno) {
	t.Helper()
	x, step, err := Solve(rests, mods)
	if x != 0 || step != 0 || !errors.Is(err, want) {
		t.Fatalf("Solve(%v, %v) = %d, %d, %v, want zeros and %v", rests, mods, x, step, err, want)
	}
}

// plainStep tries all numbers from 1 on, as the definition of the least common
// multiple says.
func plainStep(mods []int) int {
	for n := 1; ; n++ {
		if !slices.ContainsFunc(mods, func(mod int) bool { return n%mod != 0 }) {
			return n
		}
	}
}

// restsOf returns the system of which x is a solution.
func restsOf(x int, mods []int) []int {
	rests := make([]int, len(mods))
	for i, mod := range mods {
		rests[i] = x % mod
	}
	return rests
}

// forLists calls f with all lists of numbers from 0 on that are less than what
// ends has at the same place.
func forLists(ends []int, f func(list []int)) {
	list := make([]int, len(ends))
	for {
		f(list)
		at := 0
		for at < len(ends) && list[at] == ends[at]-1 {
			list[at] = 0
			at++
		}
		if at == len(ends) {
			return
		}
		list[at]++
	}
}

// forOrders calls f with the list in all orders.
func forOrders(list []int, f func(list []int)) {
	forLists(slices.Repeat([]int{len(list)}, len(list)), func(places []int) {
		var other []int
		for i, at := range places {
			if slices.Contains(places[:i], at) {
				return
			}
			other = append(other, list[at])
		}
		f(other)
	})
}

// key returns a list as a key of a map; no number of the list is -1.
func key(list []int) [api.MaxMods]int {
	k := [api.MaxMods]int{-1, -1, -1, -1, -1}
	copy(k[:], list)
	return k
}

// checkAll checks all systems with these moduli. Each x that is less than step
// is the smallest solution of its system, because solutions are apart by step;
// and a system that none of them solves has no solution.
func checkAll(t *testing.T, mods []int) {
	t.Helper()
	step := plainStep(mods)
	solved := map[[api.MaxMods]int]bool{}
	for x := range step {
		rests := restsOf(x, mods)
		wantResult(t, rests, mods, x, step)
		solved[key(rests)] = true
	}
	forLists(mods, func(rests []int) {
		if !solved[key(rests)] {
			wantError(t, rests, mods, api.ErrClash)
		}
	})
}

func TestSolve(t *testing.T) {
	for _, c := range []struct {
		rests, mods []int
		x, step     int
	}{
		{[]int{2, 3}, []int{3, 5}, 8, 15},
		{[]int{3, 2}, []int{5, 3}, 8, 15},
		{[]int{2, 3, 2}, []int{3, 5, 7}, 23, 105},
		{[]int{4}, []int{9}, 4, 9},
		{[]int{0}, []int{9}, 0, 9},
		{[]int{99}, []int{100}, 99, 100},
		{[]int{1, 1, 1, 1}, []int{2, 3, 5, 7}, 1, 210},
		{[]int{1, 2, 4, 6, 10}, []int{2, 3, 5, 7, 11}, 2_309, 2_310},
		{[]int{0, 1}, []int{100, 99}, 100, 9_900},
		{[]int{99, 0}, []int{100, 99}, 99, 9_900},
	} {
		wantResult(t, c.rests, c.mods, c.x, c.step)
	}
}

// TestSmallSystems checks all systems whose moduli are at most so great, by how
// many moduli there are.
func TestSmallSystems(t *testing.T) {
	for many, most := range []int{0, api.MaxMod, 24, 10, 6, 4} {
		forLists(slices.Repeat([]int{most}, many), func(list []int) {
			mods := make([]int, many)
			for i, n := range list {
				mods[i] = n + 1
			}
			checkAll(t, mods)
		})
	}
}

// TestTwoModuli checks systems of all pairs of moduli. The numbers to solve for
// are all multiples of a prime, so that they are spread.
func TestTwoModuli(t *testing.T) {
	for a := 1; a <= api.MaxMod; a++ {
		for b := 1; b <= api.MaxMod; b++ {
			mods := []int{a, b}
			step := plainStep(mods)
			wantResult(t, restsOf(step-1, mods), mods, step-1, step)
			for x := 0; x < step; x += 211 {
				wantResult(t, restsOf(x, mods), mods, x, step)
				if a*b != step {
					// No common divisor divides what these remainders
					// are apart, which is 1.
					wantError(t, []int{x % a, (x + 1) % b}, mods, api.ErrClash)
				}
			}
		}
	}
}

// TestGreatSystems checks systems of as many moduli as possible, in all orders,
// with solutions that take more than 32 bits among them.
func TestGreatSystems(t *testing.T) {
	for _, c := range []struct {
		mods []int
		step int
	}{
		{[]int{100, 99, 97, 91, 89}, 7_777_469_700},
		{[]int{97, 89, 83, 79, 73}, 4_132_280_413},
		{[]int{96, 98, 99, 95, 97}, 1_430_462_880},
		{[]int{100, 98, 96, 94, 92}, 127_125_600},
		{[]int{96, 72, 90, 100, 60}, 7_200},
		{[]int{64, 81, 25, 49, 11}, 69_854_400},
		{[]int{64, 96, 48, 80, 100}, 4_800},
		{[]int{100, 50, 25, 20, 10}, 100},
		{[]int{1, 97, 1, 89, 83}, 716_539},
		{[]int{100, 100, 99, 99, 97}, 960_300},
	} {
		solutions := []int{0, 1, c.step / 7, c.step / 2, c.step/2 + 1, c.step / 3 * 2, c.step - 2, c.step - 1}
		forOrders(c.mods, func(mods []int) {
			for _, x := range solutions {
				wantResult(t, restsOf(x, mods), mods, x, c.step)
			}
		})
	}
}

func TestNoModuli(t *testing.T) {
	behind := []int{7, 8}
	empty := [][]int{nil, {}, make([]int, 0, 3), behind[:0]}
	for _, rests := range empty {
		for _, mods := range empty {
			wantResult(t, rests, mods, 0, 1)
		}
	}
}

func TestModulusOne(t *testing.T) {
	for _, c := range []struct {
		rests, mods []int
		x, step     int
	}{
		{[]int{0}, []int{1}, 0, 1},
		{[]int{0, 0}, []int{1, 1}, 0, 1},
		{[]int{0, 0, 0, 0, 0}, []int{1, 1, 1, 1, 1}, 0, 1},
		{[]int{0, 4}, []int{1, 7}, 4, 7},
		{[]int{4, 0}, []int{7, 1}, 4, 7},
		{[]int{2, 0, 3}, []int{3, 1, 5}, 8, 15},
		{[]int{0, 99, 0}, []int{1, 100, 1}, 99, 100},
	} {
		wantResult(t, c.rests, c.mods, c.x, c.step)
	}
	wantError(t, []int{1}, []int{1}, api.ErrRange)
	wantError(t, []int{0, 1, 0, 0}, []int{1, 2, 1, 2}, api.ErrClash)
}

func TestCommonDivisors(t *testing.T) {
	for _, c := range []struct {
		rests, mods []int
		x, step     int
	}{
		{[]int{1, 3}, []int{4, 6}, 9, 12},
		{[]int{3, 1}, []int{6, 4}, 9, 12},
		{[]int{0, 3}, []int{6, 9}, 12, 18},
		{[]int{5, 2}, []int{6, 3}, 5, 6},
		{[]int{2, 5}, []int{3, 6}, 5, 6},
		{[]int{5, 11}, []int{6, 15}, 11, 30},
		{[]int{0, 0, 0}, []int{4, 6, 10}, 0, 60},
		{[]int{5, 9, 14}, []int{6, 10, 15}, 29, 30},
		{[]int{1, 3, 7, 15, 31}, []int{2, 4, 8, 16, 32}, 31, 32},
		{[]int{31, 15, 7, 3, 1}, []int{32, 16, 8, 4, 2}, 31, 32},
		{[]int{99, 49}, []int{100, 50}, 99, 100},
		{[]int{0, 48}, []int{100, 96}, 1_200, 2_400},
	} {
		wantResult(t, c.rests, c.mods, c.x, c.step)
	}
}

func TestEqualModuli(t *testing.T) {
	for _, mod := range []int{1, 2, 7, 12, 99, api.MaxMod} {
		for rest := range mod {
			for many := 2; many <= api.MaxMods; many++ {
				rests, mods := slices.Repeat([]int{rest}, many), slices.Repeat([]int{mod}, many)
				wantResult(t, rests, mods, rest, mod)
				for i := 0; mod > 1 && i < many; i++ {
					other := slices.Clone(rests)
					other[i] = (rest + 1) % mod
					wantError(t, other, mods, api.ErrClash)
				}
			}
		}
	}
}

func TestClash(t *testing.T) {
	for _, c := range []struct{ rests, mods []int }{
		{[]int{0, 1}, []int{2, 2}},
		{[]int{1, 0}, []int{2, 2}},
		{[]int{1, 2}, []int{4, 6}},
		{[]int{0, 4}, []int{6, 9}},
		{[]int{0, 99}, []int{2, 100}},
		{[]int{98, 97}, []int{100, 98}},
		{[]int{0, 50}, []int{100, 100}},
		// In each of these, two congruences alone have no common solution:
		// the first two, the last two, or the first and the last.
		{[]int{1, 0, 4, 6, 8}, []int{4, 6, 5, 7, 11}},
		{[]int{4, 6, 8, 1, 0}, []int{5, 7, 11, 4, 6}},
		{[]int{1, 4, 6, 8, 0}, []int{4, 5, 7, 11, 6}},
		{[]int{1, 2, 4, 6, 1}, []int{2, 3, 5, 7, 14}},
		// Here 2, 3 and 5 each divide two moduli, and one of them is in the way.
		{[]int{1, 0, 10}, []int{6, 10, 15}},
		{[]int{1, 1, 6}, []int{6, 10, 15}},
		{[]int{1, 3, 4}, []int{6, 10, 15}},
	} {
		wantError(t, c.rests, c.mods, api.ErrClash)
	}
}

func TestTooManyModuli(t *testing.T) {
	for _, many := range []int{api.MaxMods + 1, api.MaxMods + 2, 10, 100, 1_000} {
		// Moduli that could be solved for, that could not, and that are none.
		for _, mod := range append([]int{1, 2, 7, api.MaxMod}, badMods...) {
			mods := slices.Repeat([]int{mod}, many)
			for _, length := range []int{0, 1, api.MaxMods, many - 1, many, many + 1} {
				for _, rest := range []int{0, 1, -1, mod, math.MaxInt} {
					wantError(t, slices.Repeat([]int{rest}, length), mods, api.ErrFull)
				}
			}
		}
	}
	wantError(t, []int{0, 1, 0, 0, 0, 0}, []int{2, 2, 3, 5, 7, 11}, api.ErrFull)
	wantError(t, nil, []int{2, 3, 5, 7, 11, 13}, api.ErrFull)
	wantResult(t, []int{0, 0, 0, 0, 0}, []int{2, 3, 5, 7, 11}, 0, 2_310)
}

func TestDifferentLengths(t *testing.T) {
	for many := range api.MaxMods + 1 {
		for length := range api.MaxMods + 10 {
			if length == many {
				continue
			}
			for _, mod := range append([]int{1, 2, 7, api.MaxMod}, badMods...) {
				for _, rest := range []int{0, 1, -1, mod, math.MaxInt} {
					rests, mods := slices.Repeat([]int{rest}, length), slices.Repeat([]int{mod}, many)
					wantError(t, rests, mods, api.ErrShape)
				}
			}
		}
	}
	wantError(t, []int{1}, nil, api.ErrShape)
	wantError(t, nil, []int{3}, api.ErrShape)
	wantError(t, []int{0, 1, 0}, []int{2, 2}, api.ErrShape)
	wantError(t, []int{0, 1}, []int{2, 2, 3}, api.ErrShape)
}

// forSystems calls f with systems of all sizes, one of which has a solution and
// one of which has none if it has more than one congruence, and each of their
// places. The lists are new each time.
func forSystems(f func(rests, mods []int, at int)) {
	for many := 1; many <= api.MaxMods; many++ {
		for at := range many {
			f([]int{1, 2, 4, 6, 10}[:many], []int{2, 3, 5, 7, 11}[:many], at)
			f([]int{5, 6, 7, 8, 9}[:many], []int{30, 30, 30, 30, 30}[:many], at)
		}
	}
}

func TestModulusOutside(t *testing.T) {
	for _, bad := range badMods {
		for _, rest := range []int{0, 1, 2, -1, bad - 1, bad, bad + 1, math.MaxInt, math.MinInt} {
			forSystems(func(rests, mods []int, at int) {
				rests[at], mods[at] = rest, bad
				wantError(t, rests, mods, api.ErrRange)
			})
		}
	}
}

func TestRemainderOutside(t *testing.T) {
	for _, mod := range []int{1, 2, 3, 7, 50, 99, api.MaxMod} {
		for _, bad := range []int{
			-1, -2, -mod, -mod - 1, mod, mod + 1, 2 * mod, 2*mod - 1, api.MaxMod, api.MaxMod + 1, api.MaxNum,
			1 << 32, -1 << 32, math.MaxInt, math.MinInt,
		} {
			forSystems(func(rests, mods []int, at int) {
				rests[at], mods[at] = bad, mod
				wantError(t, rests, mods, api.ErrRange)
			})
		}
	}
}

// TestRangeBeforeClash has congruences with no common solution before, behind
// and around one that is none.
func TestRangeBeforeClash(t *testing.T) {
	for _, c := range []struct{ rests, mods []int }{
		{[]int{0, 1, 3}, []int{2, 2, 3}},
		{[]int{0, 3, 1}, []int{2, 3, 2}},
		{[]int{3, 0, 1}, []int{3, 2, 2}},
		{[]int{0, 1, 0}, []int{2, 2, 0}},
		{[]int{0, 0, 1}, []int{2, 101, 2}},
		{[]int{0, 0, 1}, []int{-2, 2, 2}},
		{[]int{0, 1, -1}, []int{2, 2, 3}},
		{[]int{0, 1, 0, 1, 5}, []int{2, 2, 4, 4, 5}},
	} {
		wantError(t, c.rests, c.mods, api.ErrRange)
	}
}

// TestArguments checks that lists stay as they are, with their spare capacity,
// and that later calls do not depend on them.
func TestArguments(t *testing.T) {
	for range 2 {
		for _, c := range []struct{ rests, mods []int }{
			{[]int{2, 3, 1}, []int{3, 5, 4}},
			{[]int{1, 0, 1}, []int{2, 2, 4}},
			{[]int{1, 9, 1}, []int{2, 2, 4}},
		} {
			rests, mods := slices.Clone(c.rests), slices.Clone(c.mods)
			Solve(c.rests[:2], c.mods[:2])
			if !slices.Equal(rests, c.rests) || !slices.Equal(mods, c.mods) {
				t.Errorf("Solve(%v, %v) modifies its arguments: %v, %v", rests, mods, c.rests, c.mods)
			}
			wantResult(t, []int{2, 3}, []int{3, 5}, 8, 15)
		}
	}
}
