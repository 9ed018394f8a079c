package cont

import (
	"errors"
	"math"
	"math/big"
	"slices"
	"testing"

	"rankmere/api"
)

// above are numbers that no function of the package takes, and below are those
// that none takes even if it takes 0.
var (
	above = []int{api.MaxNum + 1, api.MaxNum + 2, 2 * api.MaxNum, 1 << 32, 1<<32 + 5, math.MaxInt}
	below = []int{-1, -2, -5, -api.MaxNum, -1 << 32, math.MinInt}
)

// edges are numbers from 1 on at the limits, and some others of all sizes.
var edges = []int{
	1, 2, 3, 7, 12, 97, 113, 355, 999, 1_000, 1_001, 1_024, api.Prime, 514_229, 524_288, 720_720, 832_040, 999_983,
	api.MaxNum - 1, api.MaxNum,
}

// value returns the value of a continued fraction as the document defines it.
func value(terms []int) *big.Rat {
	v := big.NewRat(int64(terms[len(terms)-1]), 1)
	for i := len(terms) - 2; i >= 0; i-- {
		v.Inv(v)
		v.Add(v, big.NewRat(int64(terms[i]), 1))
	}
	return v
}

// plainNear computes every convergent from its terms alone, and tells whether
// none of them has too large a number.
func plainNear(terms []int) ([]api.Frac, bool) {
	var near []api.Frac
	most := big.NewInt(api.MaxNum)
	for i := range terms {
		v := value(terms[:i+1])
		if v.Num().Cmp(most) > 0 || v.Denom().Cmp(most) > 0 {
			return nil, false
		}
		near = append(near, api.Frac{Num: int(v.Num().Int64()), Den: int(v.Denom().Int64())})
	}
	return near, true
}

// plainTerms computes the terms from what is left behind each whole part.
func plainTerms(f api.Frac) []int {
	rest := big.NewRat(int64(f.Num), int64(f.Den))
	var terms []int
	for {
		whole := new(big.Int).Quo(rest.Num(), rest.Denom())
		terms = append(terms, int(whole.Int64()))
		rest.Sub(rest, new(big.Rat).SetInt(whole))
		if rest.Sign() == 0 {
			return terms
		}
		rest.Inv(rest)
	}
}

// wantTerms fails the test unless Terms returns this and no error.
func wantTerms(t *testing.T, f api.Frac, want []int) {
	t.Helper()
	got, err := Terms(f)
	if !slices.Equal(got, want) || err != nil {
		t.Fatalf("Terms(%v) = %v, %v, want %v", f, got, err, want)
	}
}

// wantNear fails the test unless Near returns this and no error.
func wantNear(t *testing.T, terms []int, want []api.Frac) {
	t.Helper()
	got, err := Near(terms)
	if !slices.Equal(got, want) || err != nil {
		t.Fatalf("Near(%v) = %v, %v, want %v", terms, got, err, want)
	}
}

// wantNearError fails the test unless Near returns nothing but this error.
func wantNearError(t *testing.T, terms []int, want api.Errno) {
	t.Helper()
	got, err := Near(terms)
	if len(got) != 0 || !errors.Is(err, want) {
		t.Fatalf("Near(%v) = %v, %v, want nothing and %v", terms, got, err, want)
	}
}

// wantBest fails the test unless Best returns this and no error.
func wantBest(t *testing.T, f api.Frac, most int, want api.Frac) {
	t.Helper()
	got, err := Best(f, most)
	if got != want || err != nil {
		t.Fatalf("Best(%v, %d) = %v, %v, want %v", f, most, got, err, want)
	}
}

// forBadFracs calls f with fractions of which one number or both are outside
// their bounds.
func forBadFracs(f func(bad api.Frac)) {
	good := append([]int{0}, edges...)
	badNums := slices.Concat(below, above)
	badDens := append([]int{0}, badNums...)
	for _, num := range badNums {
		for _, den := range slices.Concat(edges, badDens) {
			f(api.Frac{Num: num, Den: den})
		}
	}
	for _, num := range good {
		for _, den := range badDens {
			f(api.Frac{Num: num, Den: den})
		}
	}
}

func TestTerms(t *testing.T) {
	for _, c := range []struct {
		num, den int
		want     []int
	}{
		{7, 3, []int{2, 3}},
		{3, 7, []int{0, 2, 3}},
		{45, 16, []int{2, 1, 4, 3}},
		{355, 113, []int{3, 7, 16}},
		{113, 355, []int{0, 3, 7, 16}},
		{13, 8, []int{1, 1, 1, 1, 2}},
		{8, 13, []int{0, 1, 1, 1, 1, 2}},
		{649, 200, []int{3, 4, 12, 4}},
		{14, 6, []int{2, 3}},
		{6, 14, []int{0, 2, 3}},
		{700_000, 300_000, []int{2, 3}},
		{3, 2, []int{1, 2}},
		{2, 3, []int{0, 1, 2}},
		{999_999, api.MaxNum, []int{0, 1, 999_999}},
		{api.MaxNum, 999_999, []int{1, 999_999}},
		{api.MaxNum, 3, []int{333_333, 3}},
		{3, api.MaxNum, []int{0, 333_333, 3}},
		{api.MaxNum, 1_001, []int{999, 1_001}},
	} {
		wantTerms(t, api.Frac{Num: c.num, Den: c.den}, c.want)
	}
}

func TestTermsOfWholeNumbers(t *testing.T) {
	for _, den := range edges {
		wantTerms(t, api.Frac{Den: den}, []int{0})
		wantTerms(t, api.Frac{Num: den, Den: den}, []int{1})
		wantTerms(t, api.Frac{Num: den, Den: 1}, []int{den})
		whole := api.MaxNum / den
		wantTerms(t, api.Frac{Num: whole * den, Den: den}, []int{whole})
	}
}

func TestTermsBelowOne(t *testing.T) {
	for _, den := range edges[1:] {
		wantTerms(t, api.Frac{Num: 1, Den: den}, []int{0, den})
	}
	for num := 1; num <= 60; num++ {
		for den := num + 1; den <= 61; den++ {
			got, err := Terms(api.Frac{Num: num, Den: den})
			rest, _ := Terms(api.Frac{Num: den, Den: num})
			if err != nil || !slices.Equal(got, append([]int{0}, rest...)) {
				t.Fatalf("Terms(%d/%d) = %v, %v, want 0 and then %v", num, den, got, err, rest)
			}
		}
	}
}

func TestTermsOfSmallFractions(t *testing.T) {
	for num := range 121 {
		for den := 1; den <= 120; den++ {
			f := api.Frac{Num: num, Den: den}
			wantTerms(t, f, plainTerms(f))
		}
	}
}

func TestTermsAtEdges(t *testing.T) {
	for _, num := range append([]int{0}, edges...) {
		for _, den := range edges {
			f := api.Frac{Num: num, Den: den}
			wantTerms(t, f, plainTerms(f))
		}
	}
	for n := 1; n < api.MaxNum; n += 997 {
		for _, f := range []api.Frac{{Num: n, Den: api.MaxNum - n}, {Num: api.MaxNum, Den: n}, {Num: n, Den: api.MaxNum}} {
			wantTerms(t, f, plainTerms(f))
		}
	}
}

// TestMostTerms has the fractions with the most terms, which neighbours in the
// sequence of Fibonacci make.
func TestMostTerms(t *testing.T) {
	long := append(slices.Repeat([]int{1}, 27), 2)
	wantTerms(t, api.Frac{Num: 832_040, Den: 514_229}, long)
	wantTerms(t, api.Frac{Num: 514_229, Den: 832_040}, append([]int{0}, long...))
}

func TestTermsOutside(t *testing.T) {
	forBadFracs(func(bad api.Frac) {
		got, err := Terms(bad)
		if len(got) != 0 || !errors.Is(err, api.ErrRange) {
			t.Errorf("Terms(%v) = %v, %v, want nothing and ErrRange", bad, got, err)
		}
	})
}

func TestNear(t *testing.T) {
	for _, c := range []struct {
		terms []int
		want  []api.Frac
	}{
		{[]int{2, 3}, []api.Frac{{Num: 2, Den: 1}, {Num: 7, Den: 3}}},
		{[]int{3, 7, 16}, []api.Frac{{Num: 3, Den: 1}, {Num: 22, Den: 7}, {Num: 355, Den: 113}}},
		{[]int{2, 1, 4, 3}, []api.Frac{{Num: 2, Den: 1}, {Num: 3, Den: 1}, {Num: 14, Den: 5}, {Num: 45, Den: 16}}},
		{[]int{1, 1, 1, 1}, []api.Frac{{Num: 1, Den: 1}, {Num: 2, Den: 1}, {Num: 3, Den: 2}, {Num: 5, Den: 3}}},
		{[]int{2, 1}, []api.Frac{{Num: 2, Den: 1}, {Num: 3, Den: 1}}},
		{[]int{2, 2, 1}, []api.Frac{{Num: 2, Den: 1}, {Num: 5, Den: 2}, {Num: 7, Den: 3}}},
		{[]int{0, 1}, []api.Frac{{Num: 0, Den: 1}, {Num: 1, Den: 1}}},
		{[]int{0, 3, 7, 16}, []api.Frac{{Num: 0, Den: 1}, {Num: 1, Den: 3}, {Num: 7, Den: 22}, {Num: 113, Den: 355}}},
		{[]int{0, 1, 1}, []api.Frac{{Num: 0, Den: 1}, {Num: 1, Den: 1}, {Num: 1, Den: 2}}},
	} {
		wantNear(t, c.terms, c.want)
	}
}

func TestNearOfOneTerm(t *testing.T) {
	for _, term := range append([]int{0}, edges...) {
		wantNear(t, []int{term}, []api.Frac{{Num: term, Den: 1}})
	}
}

// TestNearOfSmallTerms has all lists of at most six terms that are at most 4,
// with a first term of 0 among them.
func TestNearOfSmallTerms(t *testing.T) {
	var lists func(terms []int)
	lists = func(terms []int) {
		want, _ := plainNear(terms)
		wantNear(t, terms, want)
		for term := 1; len(terms) < 6 && term <= 4; term++ {
			lists(append(slices.Clone(terms), term))
		}
	}
	for first := range 5 {
		lists([]int{first})
	}
}

// TestNearAtEdges has lists of two and three terms of all sizes; some of them
// have convergents with too large a number.
func TestNearAtEdges(t *testing.T) {
	check := func(terms []int) {
		t.Helper()
		if want, fits := plainNear(terms); fits {
			wantNear(t, terms, want)
		} else {
			wantNearError(t, terms, api.ErrFull)
		}
	}
	for _, a := range append([]int{0}, edges...) {
		for _, b := range edges {
			check([]int{a, b})
			for _, c := range edges {
				check([]int{a, b, c})
			}
		}
	}
}

func TestLargestConvergents(t *testing.T) {
	for _, c := range []struct {
		terms []int
		last  api.Frac
	}{
		{[]int{api.MaxNum}, api.Frac{Num: api.MaxNum, Den: 1}},
		{[]int{999_999, 1}, api.Frac{Num: api.MaxNum, Den: 1}},
		{[]int{1, 999_999}, api.Frac{Num: api.MaxNum, Den: 999_999}},
		{[]int{999, 1_001}, api.Frac{Num: api.MaxNum, Den: 1_001}},
		{[]int{1_001, 999}, api.Frac{Num: api.MaxNum, Den: 999}},
		{[]int{333_333, 3}, api.Frac{Num: api.MaxNum, Den: 3}},
		{[]int{0, api.MaxNum}, api.Frac{Num: 1, Den: api.MaxNum}},
		{[]int{0, 1, 999_999}, api.Frac{Num: 999_999, Den: api.MaxNum}},
		{[]int{0, 999, 1_001}, api.Frac{Num: 1_001, Den: api.MaxNum}},
		{[]int{0, 333_333, 3}, api.Frac{Num: 3, Den: api.MaxNum}},
	} {
		got, err := Near(c.terms)
		if err != nil || len(got) != len(c.terms) || got[len(got)-1] != c.last {
			t.Errorf("Near(%v) = %v, %v, want %v at the end", c.terms, got, err, c.last)
		}
	}
}

func TestTooLargeConvergents(t *testing.T) {
	for _, terms := range [][]int{
		// Only the last Num of these is too large, and it is MaxNum+1.
		{api.MaxNum, 1},
		{1, api.MaxNum},
		{1_000, 1_000},
		{10, 100_000},
		{2, 500_000},
		// And here it is only the last Den.
		{0, api.MaxNum, 1},
		{0, 1, api.MaxNum},
		{0, 1_000, 1_000},
		{0, 10, 100_000},
		{0, 2, 500_000},
		// More terms come behind those of a convergent that is too large.
		{1_000, 1_000, 1},
		{api.MaxNum, 1, 1, 1},
		{0, 1_000, 1_000, 1, 2},
		{api.MaxNum, api.MaxNum},
		{0, api.MaxNum, api.MaxNum},
		slices.Repeat([]int{api.MaxNum}, api.MaxTerms),
		slices.Repeat([]int{1 << 16}, 4),
		slices.Repeat([]int{1 << 16}, api.MaxTerms),
		slices.Repeat([]int{1}, api.MaxTerms),
		// The convergent of all these terms looks like 9003/950928 to who
		// keeps only the last 64 bits of its numbers.
		{0, 1, 4, 2, 1, 3, 1, 10, 62, 20, 1, 4, 3, 3, 435_189, 1, 7, 1, 42, 2, 34, 2, 7_134, 4, 4, 6, 1, 51, 8, 2},
	} {
		wantNearError(t, terms, api.ErrFull)
	}
}

// TestManyTerms has the longest list with convergents that all are small enough:
// from 0/1 and 1/1 on, they are neighbours in the sequence of Fibonacci.
func TestManyTerms(t *testing.T) {
	terms := append([]int{0}, slices.Repeat([]int{1}, api.MaxTerms-1)...)
	want := []api.Frac{{Num: 0, Den: 1}}
	for len(want) < api.MaxTerms {
		last := want[len(want)-1]
		want = append(want, api.Frac{Num: last.Den, Den: last.Num + last.Den})
	}
	if last := want[len(want)-1]; last != (api.Frac{Num: 514_229, Den: 832_040}) {
		t.Fatalf("the test expects %v at the end", last)
	}
	for many := 1; many <= api.MaxTerms; many++ {
		wantNear(t, terms[:many], want[:many])
	}
	wantNearError(t, append(terms, 1), api.ErrFull)
}

func TestNoTerm(t *testing.T) {
	behind := []int{7, 8}
	for _, terms := range [][]int{nil, {}, make([]int, 0, 3), behind[:0]} {
		wantNearError(t, terms, api.ErrNone)
	}
}

// TestTooManyTerms has lists that are too long. Most of them also have terms
// that are outside their bounds, which only counts in shorter lists.
func TestTooManyTerms(t *testing.T) {
	for _, many := range []int{api.MaxTerms + 1, api.MaxTerms + 2, 100, 1_000} {
		wantNearError(t, slices.Repeat([]int{1}, many), api.ErrFull)
		for _, term := range slices.Concat([]int{0}, below, above) {
			wantNearError(t, slices.Repeat([]int{term}, many), api.ErrFull)
			last := append(slices.Repeat([]int{1}, many-1), term)
			wantNearError(t, last, api.ErrFull)
		}
	}
}

func TestFirstTermOutside(t *testing.T) {
	for _, bad := range slices.Concat(below, above) {
		for many := range api.MaxTerms {
			wantNearError(t, append([]int{bad}, slices.Repeat([]int{1}, many)...), api.ErrRange)
		}
	}
}

func TestOtherTermOutside(t *testing.T) {
	for _, bad := range slices.Concat([]int{0}, below, above) {
		for many := 2; many <= api.MaxTerms; many++ {
			for at := 1; at < many; at++ {
				for first := range 3 {
					terms := slices.Repeat([]int{1}, many)
					terms[0], terms[at] = first, bad
					wantNearError(t, terms, api.ErrRange)
				}
			}
		}
	}
}

// TestRangeBeforeLargeConvergents has lists with a convergent that is too large
// before the term that is none.
func TestRangeBeforeLargeConvergents(t *testing.T) {
	for _, terms := range [][]int{
		{api.MaxNum, 1, 0},
		{1_000, 1_000, -1},
		{0, 1_000, 1_000, 0},
		{0, api.MaxNum, 1, api.MaxNum + 1},
		{api.MaxNum, api.MaxNum, api.MaxNum, math.MaxInt},
		append(slices.Repeat([]int{api.MaxNum}, api.MaxTerms-1), 0),
		append(slices.Repeat([]int{api.MaxNum}, api.MaxTerms-1), math.MinInt),
	} {
		wantNearError(t, terms, api.ErrRange)
	}
}

// TestLastNear checks that the last convergent of a fraction's terms is the
// fraction itself, in lowest terms.
func TestLastNear(t *testing.T) {
	for n := 1; n < api.MaxNum; n += 991 {
		for _, f := range []api.Frac{{Num: n, Den: api.MaxNum - n}, {Num: n, Den: api.MaxNum}, {Num: api.MaxNum, Den: n}} {
			terms, _ := Terms(f)
			near, err := Near(terms)
			v := big.NewRat(int64(f.Num), int64(f.Den))
			want := api.Frac{Num: int(v.Num().Int64()), Den: int(v.Denom().Int64())}
			if err != nil || len(near) != len(terms) || near[len(near)-1] != want {
				t.Fatalf("Near(%v) = %v, %v, want %v at the end", terms, near, err, want)
			}
		}
	}
}

func TestBest(t *testing.T) {
	for _, c := range []struct {
		num, den, most   int
		wantNum, wantDen int
	}{
		{7, 3, 2, 2, 1},
		{7, 3, 1, 2, 1},
		{7, 3, 3, 7, 3},
		{7, 3, 4, 7, 3},
		{7, 3, api.MaxNum, 7, 3},
		{14, 6, 3, 7, 3},
		{14, 6, 6, 7, 3},
		{355, 113, 6, 3, 1},
		{355, 113, 7, 22, 7},
		{355, 113, 8, 22, 7},
		{355, 113, 112, 22, 7},
		{355, 113, 113, 355, 113},
		{355, 113, 114, 355, 113},
		// Of two convergents with a Den of 1, the second is the last.
		{2, 3, 1, 1, 1},
		{2, 3, 2, 1, 1},
		{45, 16, 1, 3, 1},
		{45, 16, 4, 3, 1},
		{45, 16, 5, 14, 5},
		{45, 16, 15, 14, 5},
		{45, 16, 16, 45, 16},
		{1, 2, 1, 0, 1},
		{1, 2, 2, 1, 2},
		{0, 5, 1, 0, 1},
		{0, api.MaxNum, api.MaxNum, 0, 1},
		{5, 1, 1, 5, 1},
		{api.MaxNum, 1, 1, api.MaxNum, 1},
		{api.MaxNum, api.MaxNum, 1, 1, 1},
		{1, api.MaxNum, api.MaxNum, 1, api.MaxNum},
		{1, api.MaxNum, api.MaxNum - 1, 0, 1},
		{999_999, api.MaxNum, api.MaxNum - 1, 1, 1},
		{999_999, api.MaxNum, api.MaxNum, 999_999, api.MaxNum},
		{832_040, 514_229, 514_229, 832_040, 514_229},
		{832_040, 514_229, 514_228, 317_811, 196_418},
		{514_229, 832_040, 832_040, 514_229, 832_040},
		{514_229, 832_040, 832_039, 196_418, 317_811},
		{514_229, 832_040, 317_810, 121_393, 196_418},
	} {
		wantBest(t, api.Frac{Num: c.num, Den: c.den}, c.most, api.Frac{Num: c.wantNum, Den: c.wantDen})
	}
}

// plainBest goes over the convergents of f from the last one on.
func plainBest(f api.Frac, most int) api.Frac {
	near, _ := plainNear(plainTerms(f))
	for _, c := range slices.Backward(near) {
		if c.Den <= most {
			return c
		}
	}
	return api.Frac{}
}

func TestBestOfSmallFractions(t *testing.T) {
	for num := range 41 {
		for den := 1; den <= 30; den++ {
			for most := 1; most <= 32; most++ {
				f := api.Frac{Num: num, Den: den}
				wantBest(t, f, most, plainBest(f, most))
			}
		}
	}
}

// TestBestAtDens has a most that is just under, just at and just over the Den
// of every convergent.
func TestBestAtDens(t *testing.T) {
	for _, num := range append([]int{0}, edges...) {
		for _, den := range edges {
			f := api.Frac{Num: num, Den: den}
			near, _ := plainNear(plainTerms(f))
			for _, c := range near {
				for most := max(c.Den-1, 1); most <= min(c.Den+1, api.MaxNum); most++ {
					wantBest(t, f, most, plainBest(f, most))
				}
			}
			wantBest(t, f, api.MaxNum, near[len(near)-1])
		}
	}
}

// wantBestRange fails the test unless Best returns nothing but ErrRange.
func wantBestRange(t *testing.T, f api.Frac, most int) {
	t.Helper()
	got, err := Best(f, most)
	if got != (api.Frac{}) || !errors.Is(err, api.ErrRange) {
		t.Fatalf("Best(%v, %d) = %v, %v, want nothing and ErrRange", f, most, got, err)
	}
}

func TestBestOutside(t *testing.T) {
	bad := slices.Concat([]int{0}, below, above)
	for _, most := range bad {
		for _, num := range append([]int{0}, edges...) {
			for _, den := range edges {
				wantBestRange(t, api.Frac{Num: num, Den: den}, most)
			}
		}
	}
	forBadFracs(func(f api.Frac) {
		for _, most := range slices.Concat(edges, bad) {
			wantBestRange(t, f, most)
		}
	})
}

// TestArguments checks that the terms stay as they are, with their spare
// capacity, and that later results depend neither on them nor on former ones.
func TestArguments(t *testing.T) {
	for _, c := range [][]int{{2, 3, 7, 9}, {1_000, 1_000, 7, 9}, {2, 0, 7, 9}} {
		before := slices.Clone(c)
		got, _ := Near(c[:2])
		if !slices.Equal(c, before) {
			t.Errorf("Near(%v) modifies its argument: %v", before[:2], c)
		}
		for i := range got {
			got[i] = api.Frac{Num: 5, Den: 5}
		}
		wantNear(t, []int{2, 3}, []api.Frac{{Num: 2, Den: 1}, {Num: 7, Den: 3}})
	}
	f := api.Frac{Num: 7, Den: 3}
	got, _ := Terms(f)
	got[0] = 5
	wantTerms(t, f, []int{2, 3})
	wantBest(t, f, 3, f)
}
