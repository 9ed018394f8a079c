package paths

import (
	"math"
	"slices"
	"testing"

	"rankmere/api"
	"rankmere/plain"
	"rankmere/sample"
)

// What the chapter allows.
const (
	mostWidth = 4
	mostHigh  = 6
	mostPaths = 3
)

// mask is a set of points: a bit for each.
type mask uint64

// point returns the set of one point.
func point(x, y int) mask {
	return 1 << (x*(mostHigh+1) + y)
}

// walks returns the sets of points of all paths from a point to a height at the end
// of a width, each step on its own.
func walks(x, y, width, end int) []mask {
	if x == width && y == end {
		return []mask{point(x, y)}
	}
	var rest []mask
	if x < width {
		rest = walks(x+1, y, width, end)
	}
	if y < end {
		rest = append(rest, walks(x, y+1, width, end)...)
	}
	for i := range rest {
		rest[i] |= point(x, y)
	}
	return rest
}

// known has the paths between two heights, made once for each width.
type known map[[3]int][]mask

// of returns the paths of this width from one height to another.
func (k known) of(width, from, to int) []mask {
	key := [3]int{width, from, to}
	if _, is := k[key]; !is {
		k[key] = walks(0, from, width, to)
	}
	return k[key]
}

// families returns the number of families, by the definition, whose paths have none
// of the points that are taken.
func (k known) families(width int, from, to []int, taken mask) int {
	if len(from) == 0 {
		return 1
	}
	count := 0
	for _, path := range k.of(width, from[0], to[0]) {
		if path&taken == 0 {
			count += k.families(width, from[1:], to[1:], taken|path)
		}
	}
	return count
}

// lists returns all lists of heights in increasing order, of this length.
func lists(length int) [][]int {
	return sample.Subsets(mostHigh+1, length)
}

// wantWays fails the test unless Ways returns this number and no error.
func wantWays(t *testing.T, right, up, want int) {
	t.Helper()
	if got, err := Ways(right, up); got != want || err != nil {
		t.Fatalf("Ways(%d, %d) = %d, %v, want %d", right, up, got, err, want)
	}
}

// wantBadSteps fails the test unless Ways returns nothing but ErrRange.
func wantBadSteps(t *testing.T, right, up int) {
	t.Helper()
	if got, err := Ways(right, up); got != 0 || plain.Told(err) != api.ErrRange {
		t.Fatalf("Ways(%d, %d) = %d, %v, want 0 and %v", right, up, got, err, api.ErrRange)
	}
}

// wantApart fails the test unless Apart returns this number and no error, and Check
// has no error.
func wantApart(t *testing.T, width int, from, to []int, want int) {
	t.Helper()
	if got, err := Apart(width, from, to); got != want || err != nil {
		t.Fatalf("Apart(%d, %v, %v) = %d, %v, want %d", width, from, to, got, err, want)
	}
	if err := Check(width, from, to); err != nil {
		t.Fatalf("Check(%d, %v, %v) = %v", width, from, to, err)
	}
}

// wantBad fails the test unless Check and Apart return nothing but this error.
func wantBad(t *testing.T, width int, from, to []int, want api.Errno) {
	t.Helper()
	if err := Check(width, from, to); plain.Told(err) != want {
		t.Fatalf("Check(%d, %v, %v) = %v, want %v", width, from, to, err, want)
	}
	if got, err := Apart(width, from, to); got != 0 || plain.Told(err) != want {
		t.Fatalf("Apart(%d, %v, %v) = %d, %v, want 0 and %v", width, from, to, got, err, want)
	}
}

func TestWays(t *testing.T) {
	for right, row := range [][]int{
		{1, 1, 1, 1, 1, 1, 1},
		{1, 2, 3, 4, 5, 6, 7},
		{1, 3, 6, 10, 15, 21, 28},
		{1, 4, 10, 20, 35, 56, 84},
		{1, 5, 15, 35, 70, 126, 210},
	} {
		for up, want := range row {
			wantWays(t, right, up, want)
			if got := len(walks(0, 0, right, up)); got != want {
				t.Fatalf("there are %d paths of %d and %d steps, not %d", got, right, up, want)
			}
		}
	}
}

func TestBadSteps(t *testing.T) {
	outside := []int{-1, -2, -4, -5, -6, -7, 7, 8, 10, 100, 1 << 32, -1 << 32, 1<<32 + 1, math.MinInt, math.MaxInt}
	for _, n := range outside {
		for right := range mostWidth + 1 {
			wantBadSteps(t, right, n)
		}
		for up := range mostHigh + 1 {
			wantBadSteps(t, n, up)
		}
		for _, other := range outside {
			wantBadSteps(t, n, other)
		}
	}
	// There are fewer steps to the right than upwards.
	for up := range mostHigh + 1 {
		wantBadSteps(t, 5, up)
		wantBadSteps(t, 6, up)
	}
}

func TestApart(t *testing.T) {
	for _, c := range []struct {
		width    int
		from, to []int
		want     int
	}{
		{0, []int{0}, []int{0}, 1},
		{0, []int{0}, []int{2}, 1},
		{0, []int{0}, []int{6}, 1},
		{0, []int{2}, []int{0}, 0},
		{0, []int{0, 1}, []int{0, 1}, 1},
		// A path upwards comes to where the next one starts, or only next to it.
		{0, []int{0, 1}, []int{1, 2}, 0},
		{0, []int{0, 1}, []int{0, 2}, 1},
		{0, []int{0, 2}, []int{1, 3}, 1},
		{0, []int{0, 2}, []int{2, 3}, 0},
		{0, []int{0, 2, 5}, []int{1, 4, 6}, 1},
		{0, []int{0, 2, 5}, []int{1, 5, 6}, 0},
		{0, []int{0, 2, 5}, []int{1, 4, 5}, 1},
		{1, []int{0, 1}, []int{0, 1}, 1},
		{1, []int{0}, []int{0}, 1},
		{1, []int{0}, []int{6}, 7},
		{1, []int{6}, []int{0}, 0},
		{1, []int{0, 1}, []int{1, 2}, 1},
		{1, []int{0, 1}, []int{2, 3}, 1},
		{1, []int{0, 2}, []int{2, 4}, 4},
		{1, []int{0, 1, 2}, []int{4, 5, 6}, 0},
		{1, []int{0, 2, 4}, []int{2, 4, 6}, 4},
		// Only one of the paths would have to go down.
		{1, []int{1, 2}, []int{0, 5}, 0},
		{1, []int{0, 5}, []int{3, 4}, 0},
		{2, []int{0, 1}, []int{1, 2}, 3},
		{2, []int{0, 1}, []int{0, 6}, 21},
		{2, []int{0, 5, 6}, []int{4, 5, 6}, 15},
		{3, []int{0, 1, 2}, []int{0, 1, 2}, 1},
		{3, []int{0, 1, 2}, []int{1, 2, 3}, 4},
		{3, []int{0, 1}, []int{2, 3}, 20},
		{4, []int{0}, []int{6}, 210},
		{4, []int{6}, []int{6}, 1},
		{4, []int{6}, []int{5}, 0},
		{4, []int{0, 1, 2}, []int{4, 5, 6}, 490},
		{4, []int{0, 1}, []int{5, 6}, 1_176},
		{4, []int{0, 3}, []int{3, 6}, 1_015},
		{4, []int{0, 2}, []int{4, 6}, 1_750},
		{4, []int{0, 1, 3}, []int{2, 5, 6}, 2_100},
		{4, []int{4, 5, 6}, []int{0, 1, 2}, 0},
	} {
		wantApart(t, c.width, c.from, c.to, c.want)
		if got := (known{}).families(c.width, c.from, c.to, 0); got != c.want {
			t.Fatalf("of width %d, there are %d families from %v to %v, not %d", c.width, got, c.from, c.to, c.want)
		}
	}
}

// allCalls calls f with all arguments that have no error.
func allCalls(f func(width int, from, to []int)) {
	for width := range mostWidth + 1 {
		for length := 1; length <= mostPaths; length++ {
			for _, from := range lists(length) {
				for _, to := range lists(length) {
					f(width, from, to)
				}
			}
		}
	}
}

func TestAllFamilies(t *testing.T) {
	paths := known{}
	allCalls(func(width int, from, to []int) {
		wantApart(t, width, from, to, paths.families(width, from, to, 0))
	})
}

// ways returns the numbers of paths from each height in from to each one in to.
func ways(t *testing.T, width int, from, to []int) [][]int {
	t.Helper()
	m := sample.Filled(len(from), len(to), 0)
	for i, a := range from {
		for j, b := range to {
			if a > b {
				continue
			}
			n, err := Ways(width, b-a)
			if err != nil {
				t.Fatalf("Ways(%d, %d) has error %v", width, b-a, err)
			}
			m[i][j] = n
		}
	}
	return m
}

// TestDeterminant has the lemma of Lindström, Gessel and Viennot: the number of
// families is a determinant.
func TestDeterminant(t *testing.T) {
	allCalls(func(width int, from, to []int) {
		wantApart(t, width, from, to, sample.IntDet(ways(t, width, from, to)))
	})
}

// TestAlone has one path, for which nothing is in the way.
func TestAlone(t *testing.T) {
	for width := range mostWidth + 1 {
		for from := range mostHigh + 1 {
			for to := range mostHigh + 1 {
				want := 0
				if from <= to {
					want = len(walks(0, from, width, to))
				}
				wantApart(t, width, []int{from}, []int{to}, want)
			}
		}
	}
}

// each returns the list of what f makes of the numbers.
func each(l []int, f func(n int) int) []int {
	var made []int
	for _, n := range l {
		made = append(made, f(n))
	}
	return made
}

// TestShifts has families at other heights, and turned by half a turn.
func TestShifts(t *testing.T) {
	turned := func(l []int) []int {
		l = each(l, func(n int) int { return mostHigh - n })
		slices.Reverse(l)
		return l
	}
	allCalls(func(width int, from, to []int) {
		want, err := Apart(width, from, to)
		if err != nil {
			t.Fatalf("Apart(%d, %v, %v) has error %v", width, from, to, err)
		}
		wantApart(t, width, turned(to), turned(from), want)
		high := max(slices.Max(from), slices.Max(to))
		for shift := 1; high+shift <= mostHigh; shift++ {
			up := func(n int) int { return n + shift }
			wantApart(t, width, each(from, up), each(to, up), want)
		}
	})
}

// TestRises checks that the heights end where the one who takes them does.
func TestRises(t *testing.T) {
	at, to := heights{0, 2, 4}, heights{1, 3, 5}
	want := []heights{{0, 2, 4}, {0, 2, 5}, {0, 3, 4}, {0, 3, 5}, {1, 2, 4}, {1, 2, 5}, {1, 3, 4}, {1, 3, 5}}
	for many := range len(want) + 1 {
		got := sample.First(rises(at, to), many)
		if !slices.Equal(got, want[:many]) {
			t.Fatalf("the first %d heights are %v, want %v", many, got, want[:many])
		}
	}
}

// outside has widths that may not be.
func outside() []int {
	return []int{-1, -2, -4, 5, 6, 7, 100, 1 << 32, 1<<32 + 1, -1 << 32, math.MinInt, math.MaxInt}
}

// TestBadWidth has widths that may not be, which come before all else.
func TestBadWidth(t *testing.T) {
	for _, width := range outside() {
		for _, from := range [][]int{nil, {0}, {0, 1, 2}, {0, 1, 2, 3}, {-1}, {7}, {1, 1}} {
			for _, to := range [][]int{nil, {0}, {0, 1, 2}, {0, 1, 2, 3}, {-1}, {7}, {1, 1}} {
				wantBad(t, width, from, to, api.ErrRange)
			}
		}
	}
}

// TestNone has no paths, whatever there is to the right.
func TestNone(t *testing.T) {
	for width := range mostWidth + 1 {
		for _, from := range [][]int{nil, {}, make([]int, 0, 3)} {
			for _, to := range [][]int{nil, {}, {0}, {0, 1}, {0, 1, 2}, {0, 1, 2, 3}, {-1}, {7}, {1, 1}} {
				wantBad(t, width, from, to, api.ErrNone)
			}
		}
	}
}

// TestFull has too many paths, which come before all that is wrong with the heights.
func TestFull(t *testing.T) {
	for width := range mostWidth + 1 {
		for _, length := range []int{4, 5, 6, 7, 8, 100} {
			for _, from := range [][]int{sample.UpTo(length), make([]int, length), slices.Repeat([]int{-1}, length), slices.Repeat([]int{7}, length)} {
				for _, to := range [][]int{nil, {0}, {0, 1, 2}, from, from[1:], slices.Repeat([]int{7}, length)} {
					wantBad(t, width, from, to, api.ErrFull)
				}
			}
		}
	}
	// Spare capacity does not count.
	long := sample.UpTo(7)
	wantApart(t, 0, long[:3], long[:3], 1)
	wantApart(t, 0, long[4:], long[4:], 1)
}

// TestShape has more or fewer heights to the right than to the left, which comes
// before what is wrong with them.
func TestShape(t *testing.T) {
	bad := []int{-1, 7, 1, 1, 0, 6}
	for width := range mostWidth + 1 {
		for length := 1; length <= mostPaths; length++ {
			for other := range 8 {
				if other == length {
					continue
				}
				for _, to := range [][]int{sample.UpTo(other), make([]int, other), slices.Repeat([]int{-1}, other), slices.Repeat([]int{7}, other)} {
					wantBad(t, width, sample.UpTo(length), to, api.ErrShape)
					wantBad(t, width, make([]int, length), to, api.ErrShape)
					wantBad(t, width, bad[:length], to, api.ErrShape)
				}
			}
		}
	}
}

// told returns the error of a list of numbers that should be heights in increasing
// order.
func told(l []int) api.Errno {
	for i, n := range l {
		if n < 0 || n > mostHigh {
			return api.ErrRange
		}
		if slices.ContainsFunc(l[:i], func(last int) bool { return last >= n }) {
			return api.ErrShape
		}
	}
	return api.OK
}

// TestHeights has all lists of heights, and of numbers next to them, to the left and
// to the right of good ones.
func TestHeights(t *testing.T) {
	paths := known{}
	numbers := []int{-1, 0, 1, 2, 3, 4, 5, 6, 7}
	for width := range mostWidth + 1 {
		for length := 1; length <= mostPaths; length++ {
			low, high := sample.UpTo(length), lists(length)[len(lists(length))-1]
			for m := range sample.All(1, length, numbers...) {
				l := m[0]
				if want := told(l); want != api.OK {
					wantBad(t, width, l, high, want)
					wantBad(t, width, low, l, want)
					continue
				}
				wantApart(t, width, l, high, paths.families(width, l, high, 0))
				wantApart(t, width, low, l, paths.families(width, low, l, 0))
			}
		}
	}
}

// TestBothSides has errors to the left and to the right: those to the left come
// first, and of those on one side the first one.
func TestBothSides(t *testing.T) {
	var bad [][]int
	for m := range sample.All(1, mostPaths, -1, 0, 1, 6, 7) {
		if told(m[0]) != api.OK {
			bad = append(bad, m[0])
		}
	}
	for _, from := range bad {
		for _, to := range bad {
			wantBad(t, 2, from, to, told(from))
		}
	}
}

// TestErrors names the errors of some heights.
func TestErrors(t *testing.T) {
	good := []int{1, 3, 5}
	for _, c := range []struct {
		l    []int
		want api.Errno
	}{
		{[]int{-1}, api.ErrRange},
		{[]int{7}, api.ErrRange},
		{[]int{math.MinInt}, api.ErrRange},
		{[]int{math.MaxInt}, api.ErrRange},
		{[]int{1 << 32}, api.ErrRange},
		{[]int{0, 0}, api.ErrShape},
		{[]int{6, 6}, api.ErrShape},
		{[]int{6, 0}, api.ErrShape},
		{[]int{0, 7}, api.ErrRange},
		// A number that is no height comes before that it is not greater.
		{[]int{0, -1}, api.ErrRange},
		{[]int{7, 7}, api.ErrRange},
		{[]int{7, 6}, api.ErrRange},
		{[]int{0, 0, 7}, api.ErrShape},
		{[]int{0, 7, 7}, api.ErrRange},
		{[]int{0, 7, 1}, api.ErrRange},
		{[]int{1, 0, -1}, api.ErrShape},
		{[]int{0, 2, 1}, api.ErrShape},
		{[]int{1, 0, 2}, api.ErrShape},
		{[]int{0, 2, 2}, api.ErrShape},
		{[]int{0, 1, 7}, api.ErrRange},
		{[]int{0, 1, math.MinInt}, api.ErrRange},
	} {
		for width := range mostWidth + 1 {
			wantBad(t, width, c.l, good[:len(c.l)], c.want)
			wantBad(t, width, good[:len(c.l)], c.l, c.want)
		}
	}
	// The first height to the right need not be greater than the last one to the left.
	wantApart(t, 1, []int{4, 6}, []int{5, 6}, 2)
	wantApart(t, 1, []int{6}, []int{6}, 1)
	wantApart(t, 1, []int{6}, []int{0}, 0)
}

// TestArguments checks that lists stay as they are, with their spare capacity, and
// that the same call has the same results.
func TestArguments(t *testing.T) {
	for width := -1; width <= mostWidth+1; width++ {
		for _, l := range [][][]int{
			{{0}, {6}}, {{0, 1}, {5, 6}}, {{0, 1, 2}, {4, 5, 6}}, {{0, 1, 3}, {2, 5, 6}}, {{4, 5, 6}, {0, 1, 2}},
			{{}, {}}, {{0, 1, 2, 3}, {0, 1, 2, 3}}, {{0, 1}, {0}}, {{0}, {0, 1}}, {{0, 0}, {1, 2}}, {{0, 1, 2}, {4, 7, 5}},
		} {
			l = sample.Spacious(l)
			before := sample.Whole(l)
			want, wantErr := Apart(width, l[0], l[1])
			for range 2 {
				if got, err := Apart(width, l[0], l[1]); got != want || plain.Told(err) != plain.Told(wantErr) {
					t.Fatalf("of %d and %v, Apart is first %d, %v and later %d, %v", width, before, want, wantErr, got, err)
				}
				if err := Check(width, l[0], l[1]); plain.Told(err) != plain.Told(wantErr) {
					t.Fatalf("of %d and %v, Check is %v", width, before, err)
				}
			}
			if after := sample.Whole(l); !sample.Same(after, before) {
				t.Fatalf("the heights %v became %v", before, after)
			}
		}
	}
}

// TestSharedArguments has heights to the left and to the right that are the same
// memory, or overlap.
func TestSharedArguments(t *testing.T) {
	line := sample.UpTo(mostHigh + 1)
	before := slices.Clone(line)
	paths := known{}
	for width := range mostWidth + 1 {
		for length := 1; length <= mostPaths; length++ {
			for a := range len(line) - length + 1 {
				for b := range len(line) - length + 1 {
					from, to := line[a:a+length], line[b:b+length]
					wantApart(t, width, from, to, paths.families(width, from, to, 0))
				}
			}
		}
	}
	if !slices.Equal(line, before) {
		t.Fatalf("%v became %v", before, line)
	}
}
