package lattice

import (
	"iter"
	"math"
	"slices"
	"testing"

	"rankmere/api"
	"rankmere/plain"
	"rankmere/sample"
)

// kind returns what the chapter says of the matrices whose rows are the vectors of
// a lattice.
func kind() sample.Kind {
	return sample.Kind{Side: 2, Least: -1_000, Most: 1_000}
}

// vector returns the vector of two coordinates.
func vector(row []int) api.Vec {
	return api.Vec{X: row[0], Y: row[1]}
}

// vectors returns the rows of a matrix of two rows.
func vectors(m [][]int) (u, v api.Vec) {
	return vector(m[0]), vector(m[1])
}

// sum returns a*u + b*v.
func sum(a int, u api.Vec, b int, v api.Vec) api.Vec {
	return api.Vec{X: a*u.X + b*v.X, Y: a*u.Y + b*v.Y}
}

// multiple returns v times a number.
func multiple(by int, v api.Vec) api.Vec {
	return api.Vec{X: by * v.X, Y: by * v.Y}
}

// length returns the squared length of v.
func length(v api.Vec) int {
	return v.X*v.X + v.Y*v.Y
}

// determinant returns the determinant of two vectors.
func determinant(u, v api.Vec) int {
	return sample.IntDet([][]int{{u.X, u.Y}, {v.X, v.Y}})
}

// near yields all vectors of the lattice of u and v whose squared length is not
// larger than most. By the rule of Cramer, their factors are quotients of
// determinants, and no determinant is larger than the product of two lengths.
func near(u, v api.Vec, most int) iter.Seq[api.Vec] {
	area := determinant(u, v)
	return func(yield func(p api.Vec) bool) {
		for a := range factors(area, most*length(v)) {
			for b := range factors(area, most*length(u)) {
				if p := sum(a, u, b, v); length(p) <= most && !yield(p) {
					return
				}
			}
		}
	}
}

// factors yields all integers the square of whose product with n, which is not 0,
// is not larger than most.
func factors(n, most int) iter.Seq[int] {
	return func(yield func(k int) bool) {
		last := 0
		for (last+1)*(last+1)*n*n <= most {
			last++
		}
		for k := -last; k <= last; k++ {
			if !yield(k) {
				return
			}
		}
	}
}

// least returns the smallest squared length of those vectors for which a function
// is not 0.
func least(l []api.Vec, of func(p api.Vec) int) int {
	smallest := math.MaxInt
	for _, p := range l {
		if of(p) != 0 {
			smallest = min(smallest, length(p))
		}
	}
	return smallest
}

// pairs returns pairs of vectors whose lattice is that of u and v, or turned or
// mirrored.
func pairs(u, v api.Vec) [][2]api.Vec {
	var l [][2]api.Vec
	for _, signs := range [][2]int{{1, 1}, {1, -1}, {-1, 1}, {-1, -1}} {
		for _, pair := range [][2]api.Vec{
			// Both vectors with other signs, and both coordinates.
			{multiple(signs[0], u), multiple(signs[1], v)},
			{{X: signs[0] * u.X, Y: signs[1] * u.Y}, {X: signs[0] * v.X, Y: signs[1] * v.Y}},
		} {
			a, b := pair[0], pair[1]
			l = append(l,
				[2]api.Vec{a, b}, [2]api.Vec{b, a},
				[2]api.Vec{{X: a.Y, Y: a.X}, {X: b.Y, Y: b.X}}, [2]api.Vec{{X: b.Y, Y: b.X}, {X: a.Y, Y: a.X}},
			)
		}
	}
	return l
}

// wantShort fails the test unless Short returns these numbers and no error.
func wantShort(t *testing.T, u, v api.Vec, first, second int) {
	t.Helper()
	if a, b, err := Short(u, v); a != first || b != second || err != nil {
		t.Fatalf("Short(%v, %v) = %d, %d, %v, want %d and %d", u, v, a, b, err, first, second)
	}
}

// wantDefined fails the test unless Check, Short and Area return what the chapter
// says, for all choices of a shortest vector.
func wantDefined(t *testing.T, u, v api.Vec) {
	t.Helper()
	area := determinant(u, v)
	if area == 0 {
		wantBad(t, u, v, api.ErrClash)
		return
	}
	if err := Check(u, v); err != nil {
		t.Fatalf("Check(%v, %v) = %v", u, v, err)
	}
	wantArea(t, u, v, max(area, -area))
	first, second, err := Short(u, v)
	if first <= 0 || second < first || 3*first*second > 4*area*area || err != nil {
		// The product of both is never larger, and otherwise there might be too
		// many vectors to look at.
		t.Fatalf("Short(%v, %v) = %d, %d, %v, and the area is %d", u, v, first, second, err, area)
	}
	l := slices.Collect(near(u, v, second))
	if want := least(l, length); first != want {
		t.Fatalf("Short(%v, %v) = %d, %d, want %d first", u, v, first, second, want)
	}
	for _, p := range l {
		if length(p) != first {
			continue
		}
		if want := least(l, func(q api.Vec) int { return determinant(p, q) }); second != want {
			t.Fatalf("Short(%v, %v) = %d, %d, want %d next to %v", u, v, first, second, want, p)
		}
	}
}

// wantArea fails the test unless Area returns this number and no error.
func wantArea(t *testing.T, u, v api.Vec, want int) {
	t.Helper()
	if got, err := Area(u, v); got != want || err != nil {
		t.Fatalf("Area(%v, %v) = %d, %v, want %d", u, v, got, err, want)
	}
}

// wantHas fails the test unless Has returns this answer and no error.
func wantHas(t *testing.T, u, v, p api.Vec, want bool) {
	t.Helper()
	if got, err := Has(u, v, p); got != want || err != nil {
		t.Fatalf("Has(%v, %v, %v) = %t, %v, want %t", u, v, p, got, err, want)
	}
}

// wantHasError fails the test unless Has returns nothing but this error.
func wantHasError(t *testing.T, u, v, p api.Vec, want api.Errno) {
	t.Helper()
	if got, err := Has(u, v, p); got || plain.Told(err) != want {
		t.Fatalf("Has(%v, %v, %v) = %t, %v, want false and %v", u, v, p, got, err, want)
	}
}

// wantBad fails the test unless all functions return nothing but this error.
func wantBad(t *testing.T, u, v api.Vec, want api.Errno) {
	t.Helper()
	if err := Check(u, v); plain.Told(err) != want {
		t.Fatalf("Check(%v, %v) = %v, want %v", u, v, err, want)
	}
	if a, b, err := Short(u, v); a != 0 || b != 0 || plain.Told(err) != want {
		t.Fatalf("Short(%v, %v) = %d, %d, %v, want 0, 0 and %v", u, v, a, b, err, want)
	}
	if got, err := Area(u, v); got != 0 || plain.Told(err) != want {
		t.Fatalf("Area(%v, %v) = %d, %v, want 0 and %v", u, v, got, err, want)
	}
	for _, p := range []api.Vec{
		// What is wrong with both comes before what is wrong with the third one.
		{}, u, v, {X: 3, Y: 2}, {X: 1_001}, {Y: -1_001}, {X: math.MinInt, Y: math.MinInt}, {X: math.MaxInt, Y: math.MaxInt},
	} {
		wantHasError(t, u, v, p, want)
	}
}

func TestShort(t *testing.T) {
	for _, c := range []struct {
		u, v          api.Vec
		first, second int
	}{
		{api.Vec{X: 1}, api.Vec{X: 5, Y: 1}, 1, 1},
		{api.Vec{X: 1}, api.Vec{Y: 1}, 1, 1},
		{api.Vec{X: 2}, api.Vec{Y: 3}, 4, 9},
		{api.Vec{X: 3}, api.Vec{X: 3, Y: 2}, 4, 9},
		{api.Vec{X: 1, Y: 1}, api.Vec{X: 1, Y: -1}, 2, 2},
		{api.Vec{X: 1, Y: 1}, api.Vec{X: 2}, 2, 2},
		{api.Vec{X: 3, Y: 4}, api.Vec{X: -4, Y: 3}, 25, 25},
		// Half of a vector from side to side: two vectors are as short as the
		// second one.
		{api.Vec{X: 2}, api.Vec{X: 1, Y: 5}, 4, 26},
		{api.Vec{X: 2}, api.Vec{X: 7, Y: 5}, 4, 26},
		{api.Vec{X: 4}, api.Vec{X: 2, Y: 4}, 16, 20},
		{api.Vec{X: 4}, api.Vec{X: 2, Y: 3}, 13, 13},
		// The next one after the shortest is a multiple of it.
		{api.Vec{X: 1}, api.Vec{Y: 10}, 1, 100},
		{api.Vec{X: 1, Y: 2}, api.Vec{X: 40, Y: -20}, 5, 2_000},
		{api.Vec{X: 5, Y: 2}, api.Vec{X: 3, Y: 7}, 29, 29},
		{api.Vec{X: 5, Y: 8}, api.Vec{X: 3, Y: 5}, 1, 1},
		{api.Vec{X: 12, Y: 2}, api.Vec{X: 13, Y: 4}, 5, 97},
		{api.Vec{X: 90, Y: 123}, api.Vec{X: 56, Y: 76}, 45, 53},
		// Consecutive numbers of Fibonacci take most steps.
		{api.Vec{X: 987, Y: 610}, api.Vec{X: 610, Y: 377}, 1, 1},
		{api.Vec{X: 987, Y: 610}, api.Vec{X: -610, Y: -377}, 1, 1},
		{api.Vec{X: 1_000, Y: 999}, api.Vec{X: 999, Y: 998}, 1, 1},
		{api.Vec{X: 1_000}, api.Vec{X: 999, Y: 1}, 2, 500_000},
		{api.Vec{X: 1_000}, api.Vec{X: 1_000, Y: 1}, 1, 1_000_000},
		{api.Vec{X: 1_000}, api.Vec{X: 500, Y: 866}, 999_956, 999_956},
		{api.Vec{X: 1_000}, api.Vec{X: 500, Y: 867}, 1_000_000, 1_001_689},
		{api.Vec{X: 1_000, Y: 1_000}, api.Vec{X: 1_000, Y: -1_000}, 2_000_000, 2_000_000},
		{api.Vec{X: 1_000, Y: 1_000}, api.Vec{X: -999, Y: 1_000}, 1_998_001, 2_000_000},
		{api.Vec{X: 1_000, Y: 1_000}, api.Vec{X: 1_000, Y: 999}, 1, 1_000_000},
	} {
		wantDefined(t, c.u, c.v)
		for _, pair := range pairs(c.u, c.v) {
			wantShort(t, pair[0], pair[1], c.first, c.second)
		}
	}
}

func TestArea(t *testing.T) {
	for _, c := range []struct {
		u, v api.Vec
		want int
	}{
		{api.Vec{X: 1}, api.Vec{X: 5, Y: 1}, 1},
		{api.Vec{X: 2}, api.Vec{Y: 3}, 6},
		{api.Vec{X: 1, Y: 2}, api.Vec{X: 3, Y: 4}, 2},
		{api.Vec{X: 3, Y: 4}, api.Vec{X: -4, Y: 3}, 25},
		{api.Vec{X: 5, Y: 2}, api.Vec{X: 3, Y: 7}, 29},
		{api.Vec{X: 987, Y: 610}, api.Vec{X: 610, Y: 377}, 1},
		{api.Vec{X: 1_000}, api.Vec{X: -1_000, Y: 1}, 1_000},
		{api.Vec{X: 1_000, Y: 1_000}, api.Vec{X: 999, Y: 998}, 1_000},
		{api.Vec{X: 1_000, Y: 1_000}, api.Vec{X: 1_000, Y: -1_000}, 2_000_000},
		{api.Vec{X: 1_000, Y: 1_000}, api.Vec{X: -999, Y: 999}, 1_998_000},
	} {
		for _, pair := range pairs(c.u, c.v) {
			wantArea(t, pair[0], pair[1], c.want)
		}
	}
}

func TestHas(t *testing.T) {
	for _, c := range []struct {
		u, v, p api.Vec
		want    bool
	}{
		{api.Vec{X: 2}, api.Vec{Y: 2}, api.Vec{X: 2, Y: 2}, true},
		{api.Vec{X: 2}, api.Vec{Y: 2}, api.Vec{X: 1}, false},
		{api.Vec{X: 2}, api.Vec{Y: 2}, api.Vec{Y: 1}, false},
		{api.Vec{X: 2}, api.Vec{Y: 2}, api.Vec{X: 1, Y: 1}, false},
		{api.Vec{X: 2}, api.Vec{Y: 2}, api.Vec{}, true},
		{api.Vec{X: 2}, api.Vec{Y: 3}, api.Vec{X: 2, Y: 2}, false},
		{api.Vec{X: 2}, api.Vec{Y: 3}, api.Vec{X: 3, Y: 3}, false},
		{api.Vec{X: 2}, api.Vec{Y: 3}, api.Vec{X: -4, Y: 9}, true},
		{api.Vec{X: 1, Y: 1}, api.Vec{X: 1, Y: -1}, api.Vec{X: 1}, false},
		{api.Vec{X: 1, Y: 1}, api.Vec{X: 1, Y: -1}, api.Vec{X: 2}, true},
		{api.Vec{X: 1, Y: 1}, api.Vec{X: 1, Y: -1}, api.Vec{X: 3, Y: -7}, true},
		{api.Vec{X: 5, Y: 2}, api.Vec{X: 3, Y: 7}, api.Vec{X: 8, Y: 9}, true},
		{api.Vec{X: 5, Y: 2}, api.Vec{X: 3, Y: 7}, api.Vec{X: 2, Y: -5}, true},
		{api.Vec{X: 5, Y: 2}, api.Vec{X: 3, Y: 7}, api.Vec{X: 29}, true},
		{api.Vec{X: 5, Y: 2}, api.Vec{X: 3, Y: 7}, api.Vec{X: 28}, false},
		{api.Vec{X: 987, Y: 610}, api.Vec{X: 610, Y: 377}, api.Vec{X: 1}, true},
		{api.Vec{X: 987, Y: 610}, api.Vec{X: 610, Y: 377}, api.Vec{X: -1_000, Y: 999}, true},
		{api.Vec{X: 1_000}, api.Vec{X: 999, Y: 1}, api.Vec{X: 1, Y: -1}, true},
		{api.Vec{X: 1_000}, api.Vec{X: 999, Y: 1}, api.Vec{X: 1, Y: 999}, true},
		{api.Vec{X: 1_000}, api.Vec{X: 999, Y: 1}, api.Vec{X: 1, Y: 998}, false},
		{api.Vec{X: 1_000, Y: 1_000}, api.Vec{X: 1_000, Y: -1_000}, api.Vec{X: 1_000}, false},
		{api.Vec{X: 1_000, Y: 1_000}, api.Vec{X: 1_000, Y: -1_000}, api.Vec{X: -1_000, Y: 1_000}, true},
	} {
		for _, sign := range []int{1, -1} {
			for _, pair := range [][2]api.Vec{{c.u, c.v}, {c.v, c.u}} {
				p := multiple(sign, c.p)
				wantHas(t, pair[0], pair[1], p, c.want)
				wantHas(t, multiple(-1, pair[0]), pair[1], p, c.want)
				wantHas(t, pair[0], multiple(-1, pair[1]), p, c.want)
			}
		}
	}
}

// TestFewCoordinates has all vectors of few different coordinates.
func TestFewCoordinates(t *testing.T) {
	for _, coordinates := range [][]int{
		{-5, -4, -3, -2, -1, 0, 1, 2, 3, 4, 5},
		{-12, -7, 0, 3, 8, 10, 15},
		{-1_000, -500, 0, 1, 499, 1_000},
		{-610, 0, 377, 610, 987},
	} {
		for m := range sample.All(2, 2, coordinates...) {
			u, v := vectors(m)
			wantDefined(t, u, v)
		}
	}
}

// TestAllLengths has coordinates that follow no plain rule.
func TestAllLengths(t *testing.T) {
	for _, most := range []int{3, 9, 30, 100, 300, 1_000} {
		for seed := range 3_000 {
			u, v := vectors(sample.Kind{Side: 2, Least: -most, Most: most}.Mixed(2, 2, seed))
			wantDefined(t, u, v)
		}
	}
}

// TestAllCoordinates has all coordinates at all places.
func TestAllCoordinates(t *testing.T) {
	for n := -1_000; n <= 1_000; n++ {
		for i := range 2 {
			for j := range 2 {
				for seed := range 3 {
					m := kind().Mixed(2, 2, seed)
					m[i][j] = n
					u, v := vectors(m)
					wantDefined(t, u, v)
				}
				m := sample.Unit(2)
				m[i][j] = n
				u, v := vectors(m)
				wantDefined(t, u, v)
			}
		}
		wantHas(t, api.Vec{X: 7}, api.Vec{Y: 1}, api.Vec{X: n, Y: 5}, n%7 == 0)
		wantHas(t, api.Vec{X: 1}, api.Vec{Y: 11}, api.Vec{X: 5, Y: n}, n%11 == 0)
		wantHas(t, api.Vec{X: 1, Y: 1}, api.Vec{X: 1, Y: -2}, api.Vec{X: n, Y: n}, true)
	}
}

// TestMoves has other vectors with the same lattice.
func TestMoves(t *testing.T) {
	for _, most := range []int{2, 10, 50, 200, 1_000} {
		for seed := range 100 {
			m := sample.Kind{Side: 2, Least: -most, Most: most}.Regular(2, seed)
			u, v := vectors(m)
			first, second, err := Short(u, v)
			if err != nil {
				t.Fatalf("Short(%v, %v) has error %v", u, v, err)
			}
			area := max(determinant(u, v), -determinant(u, v))
			p := vector(kind().Mixed(1, 2, seed)[0])
			inside := sample.InLattice(m, []int{p.X, p.Y})
			for _, other := range kind().Moves(m, seed) {
				a, b := vectors(other)
				wantShort(t, a, b, first, second)
				wantArea(t, a, b, area)
				for _, in := range []api.Vec{u, v, a, b} {
					wantHas(t, a, b, in, true)
					wantHas(t, u, v, in, true)
				}
				wantHas(t, a, b, p, inside)
			}
		}
	}
}

// TestUpright has rectangles, from which a multiple of one side is then moved.
func TestUpright(t *testing.T) {
	for a := 1; a <= 1_000; a += 37 {
		for b := 1; b <= 1_000; b += 41 {
			first, second := min(a*a, b*b), max(a*a, b*b)
			for x := -1_000 / a * a; x <= 1_000; x += a * (1 + 100/a) {
				u, v := api.Vec{X: a}, api.Vec{X: x, Y: b}
				wantShort(t, u, v, first, second)
				wantShort(t, v, u, first, second)
				wantArea(t, v, u, a*b)
			}
		}
	}
}

// TestMultiples multiplies both vectors by a number.
func TestMultiples(t *testing.T) {
	for by := 1; by <= 50; by++ {
		for seed := range 50 {
			small := sample.Kind{Side: 2, Least: -1_000 / by, Most: 1_000 / by}
			u, v := vectors(small.Regular(2, seed))
			first, second, err := Short(u, v)
			if err != nil {
				t.Fatalf("Short(%v, %v) has error %v", u, v, err)
			}
			area := max(determinant(u, v), -determinant(u, v))
			for _, pair := range pairs(multiple(by, u), multiple(by, v)) {
				wantShort(t, pair[0], pair[1], first*by*by, second*by*by)
				wantArea(t, pair[0], pair[1], area*by*by)
			}
			p := vector(small.Mixed(1, 2, seed+50)[0])
			want, err := Has(u, v, p)
			if err != nil {
				t.Fatalf("Has(%v, %v, %v) has error %v", u, v, p, err)
			}
			wantHas(t, multiple(by, u), multiple(by, v), multiple(by, p), want)
			if by > 1 && by*p.X < 1_000 {
				wantHas(t, multiple(by, u), multiple(by, v), sum(by, p, 1, api.Vec{X: 1}), false)
			}
		}
	}
}

// TestAreaOfPoints counts the points of lattices. In a square whose side is the
// area, one point of so many is in the lattice.
func TestAreaOfPoints(t *testing.T) {
	for seed := range 200 {
		u, v := vectors(sample.Kind{Side: 2, Least: -5, Most: 5}.Regular(2, seed))
		area, err := Area(u, v)
		if area <= 0 || err != nil {
			t.Fatalf("Area(%v, %v) = %d, %v", u, v, area, err)
		}
		inside := 0
		for x := range area {
			for y := range area {
				in, err := Has(u, v, api.Vec{X: x, Y: y})
				if err != nil {
					t.Fatalf("Has(%v, %v, %d %d) has error %v", u, v, x, y, err)
				}
				if in {
					inside++
				}
			}
		}
		if inside != area {
			t.Fatalf("Area(%v, %v) = %d, but %d points of the square are in the lattice", u, v, area, inside)
		}
	}
}

// TestNearPoints has all points around 0.
func TestNearPoints(t *testing.T) {
	const side = 6
	for m := range sample.All(2, 2, -4, -3, -1, 0, 1, 2, 5) {
		u, v := vectors(m)
		if determinant(u, v) == 0 {
			continue
		}
		inside := map[api.Vec]bool{}
		for p := range near(u, v, 2*side*side) {
			inside[p] = true
		}
		for x := -side; x <= side; x++ {
			for y := -side; y <= side; y++ {
				p := api.Vec{X: x, Y: y}
				wantHas(t, u, v, p, inside[p])
			}
		}
	}
}

// TestFarPoints has points that follow no plain rule, and those next to points of
// the lattice.
func TestFarPoints(t *testing.T) {
	for _, most := range []int{5, 30, 200, 1_000} {
		for seed := range 500 {
			m := sample.Kind{Side: 2, Least: -most, Most: most}.Regular(2, seed)
			u, v := vectors(m)
			for k := range 20 {
				p := vector(kind().Mixed(1, 2, seed*20+k)[0])
				if k%2 == 0 {
					times := sample.Kind{Side: 2, Least: -700 / most, Most: 700 / most}.Mixed(1, 2, seed*20+k)[0]
					p = sum(times[0], u, times[1], v)
				}
				for _, step := range []api.Vec{{}, {X: 1}, {Y: -1}, {X: -2, Y: 1}, {X: 3, Y: 4}} {
					p := sum(1, p, 1, step)
					if max(p.X, -p.X, p.Y, -p.Y) <= 1_000 {
						wantHas(t, u, v, p, sample.InLattice(m, []int{p.X, p.Y}))
					}
				}
			}
		}
	}
}

// TestRange has numbers that are no coordinates at all places, also beside vectors
// that are dependent.
func TestRange(t *testing.T) {
	for _, n := range kind().Outside() {
		for place := range 4 {
			for _, m := range [][][]int{
				sample.Unit(2), kind().Regular(2, place), sample.Filled(2, 2, 0), sample.Filled(2, 2, 1),
				sample.Filled(2, 2, 1_000), sample.Filled(2, 2, n), {{n, 0}, {n, 0}}, {{0, n}, {0, n}}, {{n, n}, {0, 0}},
			} {
				m[place/2][place%2] = n
				u, v := vectors(m)
				wantBad(t, u, v, api.ErrRange)
			}
		}
	}
}

// TestPointRange has numbers that are no coordinates in the third vector.
func TestPointRange(t *testing.T) {
	for _, n := range kind().Outside() {
		for seed := range 5 {
			u, v := vectors(kind().Regular(2, seed))
			for _, other := range []int{0, 1, -5, 1_000, -1_000, n} {
				wantHasError(t, u, v, api.Vec{X: n, Y: other}, api.ErrRange)
				wantHasError(t, u, v, api.Vec{X: other, Y: n}, api.ErrRange)
			}
		}
		wantHasError(t, api.Vec{X: 1}, api.Vec{Y: 1}, api.Vec{X: n}, api.ErrRange)
		wantHasError(t, api.Vec{X: 1}, api.Vec{Y: 1}, api.Vec{Y: n}, api.ErrRange)
	}
}

// TestClash has vectors that are dependent.
func TestClash(t *testing.T) {
	for m := range kind().Singular() {
		if len(m) == 2 {
			u, v := vectors(m)
			wantBad(t, u, v, api.ErrClash)
		}
	}
	for _, pair := range [][2]api.Vec{
		{{}, {}}, {{}, {X: 1}}, {{X: 1, Y: 1}, {X: 2, Y: 2}}, {{X: 6, Y: 4}, {X: -9, Y: -6}}, {{X: 2, Y: 3}, {X: 2, Y: 3}},
		{{X: 1_000, Y: 500}, {X: 2, Y: 1}}, {{X: 1_000, Y: -1_000}, {X: -1_000, Y: 1_000}}, {{X: 996, Y: 332}, {X: 999, Y: 333}},
	} {
		for _, other := range pairs(pair[0], pair[1]) {
			wantBad(t, other[0], other[1], api.ErrClash)
		}
	}
	for seed := range 500 {
		p := vector(sample.Kind{Side: 2, Least: -50, Most: 50}.Mixed(1, 2, seed)[0])
		times := sample.Kind{Side: 2, Least: -20, Most: 20}.Mixed(1, 2, seed)[0]
		wantBad(t, multiple(times[0], p), multiple(times[1], p), api.ErrClash)
	}
}
