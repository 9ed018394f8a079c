package tree

import (
	"fmt"
	"math"
	"slices"
	"testing"

	"rankmere/api"
	"rankmere/plain"
	"rankmere/sample"
)

// What the chapter allows.
const (
	mostVertices = 6
	mostEdges    = 15
)

// complete returns an edge between any two of n vertices, in increasing order.
func complete(n int) [][]int {
	return sample.Subsets(n, 2)
}

// path returns the edges from each of n vertices to the next one.
func path(n int) [][]int {
	var pairs [][]int
	for k := 1; k < n; k++ {
		pairs = append(pairs, []int{k - 1, k})
	}
	return pairs
}

// ring returns the edges of a path, and one from its end to its start.
func ring(n int) [][]int {
	return append(path(n), []int{n - 1, 0})
}

// star returns the edges from one vertex to all others of n.
func star(n, center int) [][]int {
	var pairs [][]int
	for k := range n {
		if k != center {
			pairs = append(pairs, []int{center, k})
		}
	}
	return pairs
}

// between returns an edge from each of the first vertices to each of some others.
func between(first, others int) [][]int {
	var pairs [][]int
	for a := range first {
		for b := range others {
			pairs = append(pairs, []int{a, first + b})
		}
	}
	return pairs
}

// some returns edges of a graph with n vertices that follow no plain rule, with
// parallel ones; another seed may make others.
func some(n, edges, seed int) [][]int {
	pairs := make([][]int, 0, edges)
	numbers := sample.Kind{Side: 1, Least: 0, Most: 999}.Mixed(1, 2*edges, seed)[0]
	for k := range edges {
		a, step := numbers[2*k]%n, 1+numbers[2*k+1]%(n-1)
		pairs = append(pairs, []int{a, (a + step) % n})
	}
	return pairs
}

// connected tells whether some of the edges connect n vertices.
func connected(n int, pairs [][]int, chosen []int) bool {
	group := sample.UpTo(n)
	for _, k := range chosen {
		from, to := group[pairs[k][0]], group[pairs[k][1]]
		for i := range group {
			if group[i] == from {
				group[i] = to
			}
		}
	}
	return !slices.ContainsFunc(group, func(g int) bool { return g != group[0] })
}

// choices is sample.Subsets for numbers below each n up to mostEdges, made once.
type choices map[[2]int][][]int

// of returns all lists of this many numbers below n in increasing order.
func (c choices) of(n, many int) [][]int {
	key := [2]int{n, many}
	if _, known := c[key]; !known {
		c[key] = sample.Subsets(n, many)
	}
	return c[key]
}

// trees returns the number of spanning trees, by the definition.
func (c choices) trees(n int, pairs [][]int) int {
	count := 0
	for _, chosen := range c.of(len(pairs), n-1) {
		if connected(n, pairs, chosen) {
			count++
		}
	}
	return count
}

// laplacian returns the matrix of the chapter, each element on its own.
func laplacian(n int, pairs [][]int) [][]int {
	m := sample.Filled(n, n, 0)
	for i := range n {
		for j := range n {
			for _, pair := range pairs {
				if i == j && slices.Contains(pair, i) {
					m[i][j]++
				}
				if i != j && slices.Contains(pair, i) && slices.Contains(pair, j) {
					m[i][j]--
				}
			}
		}
	}
	return m
}

// wantCount fails the test unless Count returns this number and no error, and Check
// has no error.
func wantCount(t *testing.T, n int, pairs [][]int, want int) {
	t.Helper()
	if got, err := Count(n, pairs); got != want || err != nil {
		t.Fatalf("Count(%d, %v) = %d, %v, want %d", n, pairs, got, err, want)
	}
	if err := Check(n, pairs); err != nil {
		t.Fatalf("Check(%d, %v) = %v", n, pairs, err)
	}
}

// wantLaplace fails the test unless Laplace returns this matrix and no error.
func wantLaplace(t *testing.T, n int, pairs, want [][]int) {
	t.Helper()
	if got, err := Laplace(n, pairs); !sample.Same(got, want) || err != nil {
		t.Fatalf("Laplace(%d, %v) = %v, %v, want %v", n, pairs, got, err, want)
	}
}

// wantDefined fails the test unless all functions return what the chapter says.
func (c choices) wantDefined(t *testing.T, n int, pairs [][]int) {
	t.Helper()
	wantCount(t, n, pairs, c.trees(n, pairs))
	wantLaplace(t, n, pairs, laplacian(n, pairs))
}

// wantBad fails the test unless all functions return nothing but this error.
func wantBad(t *testing.T, n int, pairs [][]int, want api.Errno) {
	t.Helper()
	if err := Check(n, pairs); plain.Told(err) != want {
		t.Fatalf("Check(%d, %v) = %v, want %v", n, pairs, err, want)
	}
	if got, err := Laplace(n, pairs); len(got) != 0 || plain.Told(err) != want {
		t.Fatalf("Laplace(%d, %v) = %v, %v, want nothing and %v", n, pairs, got, err, want)
	}
	if got, err := Count(n, pairs); got != 0 || plain.Told(err) != want {
		t.Fatalf("Count(%d, %v) = %d, %v, want 0 and %v", n, pairs, got, err, want)
	}
}

// turned returns the edges with their vertices the other way round.
func turned(pairs [][]int) [][]int {
	l := sample.Clone(pairs)
	for _, pair := range l {
		slices.Reverse(pair)
	}
	return l
}

// renamed returns the edges with the vertices that an order has in their places.
func renamed(pairs [][]int, order []int) [][]int {
	l := sample.Clone(pairs)
	for _, pair := range l {
		pair[0], pair[1] = order[pair[0]], order[pair[1]]
	}
	return l
}

// arranged returns the same graph in other ways: other names of the vertices, other
// orders of the edges, and other orders in them.
func arranged(n int, pairs [][]int) [][][]int {
	var l [][][]int
	for k, order := range sample.OrdersOf(n) {
		other := renamed(pairs, order)
		if k%2 == 1 {
			slices.Reverse(other)
		}
		for i, pair := range other {
			if (i+k)%3 == 0 {
				slices.Reverse(pair)
			}
		}
		l = append(l, other)
	}
	return l
}

func TestCount(t *testing.T) {
	for _, c := range []struct {
		n     int
		pairs [][]int
		want  int
	}{
		{1, nil, 1},
		{1, [][]int{}, 1},
		{2, nil, 0},
		{2, [][]int{{0, 1}}, 1},
		{2, [][]int{{0, 1}, {0, 1}}, 2},
		{2, [][]int{{0, 1}, {1, 0}, {0, 1}}, 3},
		{2, slices.Repeat(path(2), mostEdges), 15},
		{3, [][]int{{0, 1}, {1, 2}, {0, 2}}, 3},
		{3, [][]int{{0, 1}, {1, 2}, {0, 2}, {2, 0}}, 5},
		{3, slices.Repeat(ring(3), 5), 75},
		{3, [][]int{{0, 1}, {0, 1}}, 0},
		{4, [][]int{{0, 1}, {2, 3}}, 0},
		{4, [][]int{{0, 1}, {1, 2}, {2, 0}}, 0},
		{4, [][]int{{0, 1}, {1, 2}, {2, 0}, {2, 3}}, 3},
		{4, [][]int{{0, 1}, {1, 2}, {2, 3}, {3, 0}, {0, 2}}, 8},
		{4, slices.Repeat(path(4), 5), 125},
		{4, slices.Repeat(ring(4), 3), 108},
		{4, slices.Repeat(complete(4), 2), 128},
		{5, slices.Repeat(ring(5), 3), 405},
		{6, slices.Repeat(path(6), 3), 243},
		{6, slices.Repeat(star(6, 4), 3), 243},
		{6, slices.Repeat(ring(6), 2), 192},
		// Two rings of three, that share no vertex, with no edge between them, with
		// one, and with three.
		{6, [][]int{{0, 1}, {1, 2}, {2, 0}, {3, 4}, {4, 5}, {5, 3}}, 0},
		{6, [][]int{{0, 1}, {1, 2}, {2, 0}, {3, 4}, {4, 5}, {5, 3}, {1, 4}}, 9},
		{6, [][]int{{0, 1}, {1, 2}, {2, 0}, {3, 4}, {4, 5}, {5, 3}, {0, 3}, {1, 4}, {2, 5}}, 75},
		// A ring of five, and a vertex in the middle.
		{6, append(ring(5), star(6, 5)...), 121},
		// An octahedron.
		{6, slices.DeleteFunc(complete(6), func(pair []int) bool { return pair[0]+pair[1] == 5 }), 384},
		// The vertex without edges is the first one, one in between, or the last one.
		{6, slices.DeleteFunc(complete(6), func(pair []int) bool { return pair[0] == 0 }), 0},
		{6, slices.DeleteFunc(complete(6), func(pair []int) bool { return slices.Contains(pair, 3) }), 0},
		{6, complete(5), 0},
		{6, nil, 0},
	} {
		for _, pairs := range arranged(c.n, c.pairs) {
			wantCount(t, c.n, pairs, c.want)
			wantCount(t, c.n, turned(pairs), c.want)
		}
	}
}

// TestFamilies has graphs for all numbers of vertices.
func TestFamilies(t *testing.T) {
	for n := 1; n <= mostVertices; n++ {
		for times := 1; times*(n-1) <= mostEdges && times <= mostEdges; times++ {
			wantCount(t, n, slices.Repeat(path(n), times), sample.Power(times, n-1))
			for center := range n {
				wantCount(t, n, slices.Repeat(star(n, center), times), sample.Power(times, n-1))
			}
		}
		if n > 1 {
			// The formula of Cayley.
			wantCount(t, n, complete(n), sample.Power(n, n-2))
		}
		for times := 1; times*n <= mostEdges && n > 1; times++ {
			wantCount(t, n, slices.Repeat(ring(n), times), n*sample.Power(times, n-1))
		}
		for first := 1; first < n; first++ {
			others := n - first
			want := sample.Power(first, others-1) * sample.Power(others, first-1)
			wantCount(t, n, between(first, others), want)
		}
	}
}

func TestLaplace(t *testing.T) {
	for _, c := range []struct {
		n           int
		pairs, want [][]int
	}{
		{1, nil, [][]int{{0}}},
		{2, nil, [][]int{{0, 0}, {0, 0}}},
		{2, [][]int{{0, 1}}, [][]int{{1, -1}, {-1, 1}}},
		{2, [][]int{{1, 0}}, [][]int{{1, -1}, {-1, 1}}},
		{2, [][]int{{1, 0}, {0, 1}}, [][]int{{2, -2}, {-2, 2}}},
		{2, slices.Repeat(path(2), mostEdges), [][]int{{15, -15}, {-15, 15}}},
		{3, [][]int{{0, 1}, {1, 2}, {0, 2}}, [][]int{{2, -1, -1}, {-1, 2, -1}, {-1, -1, 2}}},
		{3, [][]int{{0, 1}, {1, 2}}, [][]int{{1, -1, 0}, {-1, 2, -1}, {0, -1, 1}}},
		{3, [][]int{{2, 0}, {0, 2}, {2, 1}}, [][]int{{2, 0, -2}, {0, 1, -1}, {-2, -1, 3}}},
		{4, [][]int{{3, 1}}, [][]int{{0, 0, 0, 0}, {0, 1, 0, -1}, {0, 0, 0, 0}, {0, -1, 0, 1}}},
		{
			6, append(ring(5), slices.Repeat([][]int{{5, 2}}, 10)...),
			[][]int{
				{2, -1, 0, 0, -1, 0},
				{-1, 2, -1, 0, 0, 0},
				{0, -1, 12, -1, 0, -10},
				{0, 0, -1, 2, -1, 0},
				{-1, 0, 0, -1, 2, 0},
				{0, 0, -10, 0, 0, 10},
			},
		},
	} {
		wantLaplace(t, c.n, c.pairs, c.want)
		wantLaplace(t, c.n, turned(c.pairs), c.want)
	}
}

// TestAllGraphs has all graphs without parallel edges.
func TestAllGraphs(t *testing.T) {
	known := choices{}
	for n := 1; n <= mostVertices; n++ {
		all := complete(n)
		for many := range len(all) + 1 {
			for _, chosen := range known.of(len(all), many) {
				pairs := make([][]int, 0, many)
				for _, k := range chosen {
					pairs = append(pairs, all[k])
				}
				known.wantDefined(t, n, pairs)
			}
		}
	}
}

// TestParallelEdges has all lists of few edges, with any of them several times.
func TestParallelEdges(t *testing.T) {
	known := choices{}
	for _, c := range []struct{ n, edges int }{{2, 15}, {3, 6}, {4, 5}} {
		last := [][][]int{nil}
		for range c.edges {
			var next [][][]int
			for _, pairs := range last {
				for _, pair := range complete(c.n) {
					next = append(next, append(slices.Clone(pairs), pair))
				}
			}
			for _, pairs := range next {
				known.wantDefined(t, c.n, pairs)
			}
			last = next
		}
	}
}

// TestManyEdges has edges that follow no plain rule.
func TestManyEdges(t *testing.T) {
	known := choices{}
	for n := 2; n <= mostVertices; n++ {
		for edges := range mostEdges + 1 {
			for seed := range 20 {
				pairs := some(n, edges, seed)
				known.wantDefined(t, n, pairs)
				if seed > 0 {
					continue
				}
				want := known.trees(n, pairs)
				for _, other := range arranged(n, pairs) {
					wantCount(t, n, other, want)
					wantLaplace(t, n, other, laplacian(n, other))
				}
			}
		}
	}
}

// TestWithoutEdge has each edge of a graph: a spanning tree is without it, or one
// of the graph in which its two vertices are one.
func TestWithoutEdge(t *testing.T) {
	known := choices{}
	for n := 2; n <= mostVertices; n++ {
		for edges := 1; edges <= mostEdges; edges += 2 {
			pairs := some(n, edges, n+edges)
			count, err := Count(n, pairs)
			if err != nil {
				t.Fatalf("Count(%d, %v) has error %v", n, pairs, err)
			}
			for k, edge := range pairs {
				without := slices.Delete(slices.Clone(pairs), k, k+1)
				// The vertex of the edge that is the other one from now on is the last.
				order := sample.UpTo(n)
				order[edge[1]], order[n-1] = order[n-1], order[edge[1]]
				one := order[edge[0]]
				var joined [][]int
				for _, pair := range renamed(without, order) {
					for i, vertex := range pair {
						if vertex == n-1 {
							pair[i] = one
						}
					}
					if pair[0] != pair[1] {
						joined = append(joined, pair)
					}
				}
				fewer, err := Count(n-1, joined)
				if err != nil {
					t.Fatalf("Count(%d, %v) has error %v", n-1, joined, err)
				}
				wantCount(t, n, without, count-fewer)
				wantCount(t, n-1, joined, known.trees(n-1, joined))
			}
		}
	}
}

// badEdges returns lists that are no edges between two of n vertices, with their
// errors.
func badEdges(n int) map[api.Errno][][]int {
	shapes := [][]int{
		nil, {}, {0}, {-1}, {n}, {0, 0, 0}, {0, 1, 0}, {0, 1, 2}, {0, 0, 1}, {-1, n, 0}, {n, n, n}, make([]int, 100),
		// Two numbers that are the same come before numbers that are no vertices.
		{-1, -1}, {n, n}, {n + 1, n + 1}, {math.MinInt, math.MinInt}, {math.MaxInt, math.MaxInt},
	}
	for vertex := range n {
		shapes = append(shapes, []int{vertex, vertex})
	}
	ranges := [][]int{{-1, n}, {n, -1}, {n, n + 1}, {-2, -1}, {math.MinInt, math.MaxInt}}
	for vertex := range n {
		for _, outside := range []int{-1, -2, -n, n, n + 1, 6, 7, 1 << 32, -1 << 32, math.MinInt, math.MaxInt} {
			if outside < 0 || outside >= n {
				ranges = append(ranges, []int{vertex, outside}, []int{outside, vertex})
			}
		}
	}
	return map[api.Errno][][]int{api.ErrShape: shapes, api.ErrRange: ranges}
}

// TestBadEdges has each of them at all places, alone, and before others of both
// kinds.
func TestBadEdges(t *testing.T) {
	for n := 1; n <= mostVertices; n++ {
		for want, edges := range badEdges(n) {
			for _, bad := range edges {
				wantBad(t, n, [][]int{bad}, want)
				wantBad(t, n, [][]int{bad, {-1, 0}}, want)
				wantBad(t, n, [][]int{bad, {0, 0}}, want)
				wantBad(t, n, [][]int{bad, nil}, want)
				wantBad(t, n, [][]int{bad, {0, n}, {0, 0}}, want)
				wantBad(t, n, slices.Repeat([][]int{bad}, mostEdges), want)
				if n == 1 {
					continue
				}
				for place := range mostEdges {
					pairs := some(n, mostEdges, place)
					pairs[place] = bad
					wantBad(t, n, pairs, want)
					wantBad(t, n, pairs[:place+1], want)
				}
			}
		}
	}
}

// TestFull has too many edges, which come before what is wrong with them.
func TestFull(t *testing.T) {
	for n := 1; n <= mostVertices; n++ {
		for _, edges := range []int{16, 17, 31, 100} {
			if n > 1 {
				wantBad(t, n, some(n, edges, n), api.ErrFull)
			}
			for _, bad := range [][]int{nil, {0}, {0, 0}, {0, n}, {-1, 0}, {0, 1, 2}} {
				wantBad(t, n, slices.Repeat([][]int{bad}, edges), api.ErrFull)
			}
		}
	}
}

// TestOutside has numbers of vertices that may not be, which come before all that
// is wrong with the edges.
func TestOutside(t *testing.T) {
	for _, n := range []int{0, -1, -2, -6, 7, 8, 15, 1_000, 1 << 32, 1<<32 + 1, -1 << 32, math.MinInt, math.MaxInt} {
		wantBad(t, n, nil, api.ErrRange)
		wantBad(t, n, path(2), api.ErrRange)
		wantBad(t, n, complete(6), api.ErrRange)
		wantBad(t, n, path(7), api.ErrRange)
		wantBad(t, n, [][]int{{0, 0}}, api.ErrRange)
		wantBad(t, n, [][]int{nil}, api.ErrRange)
		wantBad(t, n, slices.Repeat(path(2), 16), api.ErrRange)
		wantBad(t, n, make([][]int, 16), api.ErrRange)
	}
}

// answersOf returns what the functions return, but for the matrix.
func answersOf(n int, pairs [][]int) string {
	count, err := Count(n, pairs)
	_, other := Laplace(n, pairs)
	return fmt.Sprint(count, err, other, Check(n, pairs))
}

// checkArguments calls all functions again and again, and checks that arguments
// stay as they are, with their spare capacity, and results too.
func checkArguments(t *testing.T, n int, pairs [][]int) {
	t.Helper()
	pairs = sample.Spacious(pairs)
	before := sample.Whole(pairs)
	matrix, _ := Laplace(n, pairs)
	wantMatrix, want := sample.Clone(matrix), answersOf(n, pairs)
	for range 2 {
		if got := answersOf(n, pairs); got != want {
			t.Fatalf("of %d and %v, the results are first %v and later %v", n, before, want, got)
		}
		next, _ := Laplace(n, pairs)
		if !sample.Same(next, wantMatrix) {
			t.Fatalf("of %d and %v, the results are first %v and later %v", n, before, wantMatrix, next)
		}
		if !sample.Spoil(next) {
			t.Fatalf("of %d and %v, rows of the result share memory", n, before)
		}
		if !sample.Same(matrix, wantMatrix) {
			t.Fatalf("of %d and %v, two results share memory", n, before)
		}
	}
	if after := sample.Whole(pairs); !sample.Same(after, before) {
		t.Fatalf("edges %v became %v", before, after)
	}
	// What the caller does to the edges later is not seen in the result.
	sample.Spoil(pairs)
	if !sample.Same(matrix, wantMatrix) {
		t.Fatalf("of %d and %v, the result shares memory with the edges", n, before)
	}
}

func TestArguments(t *testing.T) {
	for n := range mostVertices + 2 {
		checkArguments(t, n, nil)
		checkArguments(t, n, complete(n))
		checkArguments(t, n, [][]int{{0, 1}, {0, 0}})
		checkArguments(t, n, [][]int{{0, 1}, {0, n}, nil})
		for edges := range mostEdges + 2 {
			for seed := range 5 {
				checkArguments(t, n, some(max(n, 2), edges, seed))
			}
		}
	}
}

// TestSharedArguments has edges that are the same memory as others, or overlap.
func TestSharedArguments(t *testing.T) {
	known := choices{}
	line := []int{0, 1, 2, 0, 3, 1, 4, 5, 2, 3}
	before := slices.Clone(line)
	var pairs [][]int
	for k := range len(line) - 1 {
		pairs = append(pairs, line[k:k+2])
	}
	for range 2 {
		known.wantDefined(t, 6, pairs)
		known.wantDefined(t, 6, append(pairs[:4:4], pairs[5:]...))
		known.wantDefined(t, 3, slices.Repeat(pairs[:3], 5))
		wantBad(t, 6, [][]int{line[:2], line[:3]}, api.ErrShape)
		wantBad(t, 4, pairs, api.ErrRange)
		if !slices.Equal(line, before) {
			t.Fatalf("%v became %v", before, line)
		}
	}
}
