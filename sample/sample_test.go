package sample

import (
	"slices"
	"testing"

	"rankmere/api"
)

// kinds returns the kind of the field and others.
func kinds() []Kind {
	return []Kind{ofField(), {5, -9, 9}, {4, -9, 9}, {3, -20, 20}, {6, -9, 9}, {1, 0, 1}}
}

func TestOutside(t *testing.T) {
	for _, k := range kinds() {
		for _, n := range k.Outside() {
			if n >= k.Least && n <= k.Most {
				t.Errorf("%d is an element of %v", n, k)
			}
		}
		for _, n := range []int{k.Least - 1, k.Most + 1} {
			if !slices.Contains(k.Outside(), n) {
				t.Errorf("%d is missing for %v", n, k)
			}
		}
	}
	if want := (Kind{5, 0, 9_972}).Outside(); !slices.Equal(Outside(), want) {
		t.Errorf("Outside() = %v, want %v", Outside(), want)
	}
}

func TestSizes(t *testing.T) {
	for _, k := range kinds() {
		count := 0
		for rows, columns := range k.Sizes() {
			if rows != 1+count/k.Side || columns != 1+count%k.Side {
				t.Errorf("size %d of %v is %d, %d", count, k, rows, columns)
			}
			count++
		}
		if count != k.Side*k.Side {
			t.Errorf("there are %d sizes of %v", count, k)
		}
	}
	count := 0
	for range Sizes() {
		count++
	}
	if count != 25 {
		t.Errorf("there are %d sizes", count)
	}
	for range Sizes() {
		break
	}
}

func TestMixed(t *testing.T) {
	for _, k := range kinds() {
		least, most := k.Most, k.Least
		for rows, columns := range k.Sizes() {
			for seed := range 30 {
				for _, row := range k.Mixed(rows, columns, seed) {
					if len(row) != columns {
						t.Errorf("a matrix of %v has the row %v", k, row)
					}
					least, most = min(least, slices.Min(row)), max(most, slices.Max(row))
				}
			}
		}
		if least < k.Least || most > k.Most {
			t.Errorf("%v has elements from %d to %d", k, least, most)
		}
		if k.Most-k.Least < 50 && (least > k.Least || most < k.Most) {
			t.Errorf("%v has only elements from %d to %d", k, least, most)
		}
	}
}

func TestMade(t *testing.T) {
	for _, c := range []struct{ got, want [][]int }{
		{Filled(2, 3, 7), [][]int{{7, 7, 7}, {7, 7, 7}}},
		{Filled(0, 3, 7), nil},
		{With(2, 3, 1, 2, 7), [][]int{{0, 0, 0}, {0, 0, 7}}},
		{Unit(2), [][]int{{1, 0}, {0, 1}}},
		{Mul([][]int{{1, 2}, {3, 4}}, [][]int{{5, 6}, {7, 8}}), [][]int{{19, 22}, {43, 50}}},
		{Mul([][]int{{9_972, 1}}, [][]int{{9_972}, {9_972}}), [][]int{{0}}},
		{IntMul([][]int{{1, 2}, {3, 4}}, [][]int{{5, 6}, {7, -8}}), [][]int{{19, -10}, {43, -14}}},
		{IntMul([][]int{{9_972, 1}}, [][]int{{9_972}, {9_972}}), [][]int{{9_972 * 9_973}}},
		{Turned([][]int{{1, 2, 3}, {4, 5, 6}}), [][]int{{1, 4}, {2, 5}, {3, 6}}},
		{Without([][]int{{1, 2, 3}, {4, 5, 6}, {7, 8, 9}}, 1, 2), [][]int{{1, 2}, {7, 8}}},
		{Mixed(3, 4, 1), Mixed(3, 4, 1)},
	} {
		if !Same(c.got, c.want) {
			t.Errorf("got %v, want %v", c.got, c.want)
		}
	}
	if Same(Mixed(1, 1, 1), Mixed(1, 1, 2)) {
		t.Errorf("two seeds make the same matrix")
	}
}

func TestNumbers(t *testing.T) {
	for length := range 20 {
		for seed := range 3 {
			got := Numbers(length, seed)
			if len(got) != length || !slices.Equal(got, Mixed(1, length, seed)[0]) {
				t.Errorf("Numbers(%d, %d) = %v", length, seed, got)
			}
		}
	}
	if slices.Equal(Numbers(5, 1), Numbers(5, 2)) {
		t.Errorf("two seeds make the same numbers")
	}
}

func TestAll(t *testing.T) {
	for rows, columns := range (Kind{Side: 3}).Sizes() {
		var seen [][]int
		for m := range All(rows, columns, 0, 7) {
			if len(m) != rows || len(m[0]) != columns {
				t.Errorf("%v has not %d rows and %d columns", m, rows, columns)
			}
			seen = append(seen, slices.Concat(m...))
		}
		for _, all := range seen {
			if slices.ContainsFunc(all, func(n int) bool { return n != 0 && n != 7 }) {
				t.Errorf("there are elements %v", all)
			}
		}
		slices.SortFunc(seen, slices.Compare)
		if many := len(slices.CompactFunc(seen, slices.Equal)); many != 1<<(rows*columns) {
			t.Errorf("there are %d matrices of %d rows and %d columns", many, rows, columns)
		}
	}
	for range All(2, 2, 0, 1) {
		break
	}
}

func TestPart(t *testing.T) {
	m := [][]int{{1, 2, 3}, {4, 5, 6}, {7, 8, 9}}
	for _, c := range []struct {
		rows, columns []int
		want          [][]int
	}{
		{[]int{0, 2}, []int{1, 2}, [][]int{{2, 3}, {8, 9}}},
		{[]int{2, 0}, []int{1}, [][]int{{8}, {2}}},
		{[]int{1}, []int{2, 0, 1}, [][]int{{6, 4, 5}}},
		{nil, nil, nil},
	} {
		if got := Part(m, c.rows, c.columns); !Same(got, c.want) {
			t.Errorf("Part(%v, %v, %v) = %v, want %v", m, c.rows, c.columns, got, c.want)
		}
	}
}

func TestBlocks(t *testing.T) {
	for _, c := range []struct{ a, b, above, want [][]int }{
		{[][]int{{1}}, [][]int{{2}}, [][]int{{3}}, [][]int{{1, 3}, {0, 2}}},
		{[][]int{{1}}, [][]int{{2, 3}, {4, 5}}, [][]int{{6, 7}}, [][]int{{1, 6, 7}, {0, 2, 3}, {0, 4, 5}}},
		{[][]int{{1, 2}, {3, 4}}, [][]int{{5}}, [][]int{{6}, {7}}, [][]int{{1, 2, 6}, {3, 4, 7}, {0, 0, 5}}},
	} {
		if got := Blocks(c.a, c.b, c.above); !Same(got, c.want) {
			t.Errorf("Blocks(%v, %v, %v) = %v, want %v", c.a, c.b, c.above, got, c.want)
		}
	}
}

func TestDet(t *testing.T) {
	for _, c := range []struct {
		m    [][]int
		want int
	}{
		{nil, 1},
		{[][]int{{7}}, 7},
		{[][]int{{1, 2}, {3, 4}}, 9_971},
		{[][]int{{0, 1}, {1, 0}}, 9_972},
		{[][]int{{2, 0, 0}, {0, 3, 0}, {0, 0, 5}}, 30},
		{[][]int{{0, 0, 1}, {1, 0, 0}, {0, 1, 0}}, 1},
		{[][]int{{1, 2, 3}, {4, 5, 6}, {7, 8, 10}}, 9_970},
		{Filled(5, 5, 9_972), 0},
		{Unit(12), 1},
	} {
		if got := Det(c.m); got != c.want {
			t.Errorf("Det(%v) = %d, want %d", c.m, got, c.want)
		}
	}
	for n := 1; n <= 5; n++ {
		for seed := range 100 {
			if m := Invertible(n, seed); Det(m) == 0 {
				t.Errorf("Invertible(%d, %d) = %v", n, seed, m)
			}
		}
	}
}

func TestIntDet(t *testing.T) {
	for _, c := range []struct {
		m    [][]int
		want int
	}{
		{nil, 1},
		{[][]int{{-7}}, -7},
		{[][]int{{1, 2}, {3, 4}}, -2},
		{[][]int{{100, 0}, {0, 100}}, 10_000},
		{[][]int{{0, 0, -100}, {0, -100, 0}, {-100, 0, 0}}, 1_000_000},
		{[][]int{{1, 2, 3}, {4, 5, 6}, {7, 8, 10}}, -3},
		{Filled(5, 5, -9), 0},
	} {
		if got := IntDet(c.m); got != c.want {
			t.Errorf("IntDet(%v) = %d, want %d", c.m, got, c.want)
		}
	}
}

func TestRegular(t *testing.T) {
	for _, k := range kinds() {
		for n := 1; n <= k.Side; n++ {
			for seed := range 100 {
				m := k.Regular(n, seed)
				if len(m) != n || errorOf(k, m) != api.OK || IntDet(m) == 0 {
					t.Fatalf("Regular(%d, %d) of %v is %v", n, seed, k, m)
				}
			}
		}
		if Same(k.Regular(k.Side, 1), k.Regular(k.Side, 2)) && k.Most > 1 {
			t.Errorf("two seeds make the same matrix of %v", k)
		}
	}
}

func TestSingular(t *testing.T) {
	for _, k := range kinds()[1:] {
		sizes, zeros := map[int]int{}, 0
		for m := range k.Singular() {
			if len(m) != len(m[0]) || errorOf(k, m) != api.OK || IntDet(m) != 0 {
				t.Fatalf("Singular of %v has %v", k, m)
			}
			sizes[len(m)]++
			if slices.Contains(slices.Concat(m...), 0) {
				zeros++
			}
		}
		if len(sizes) != k.Side || zeros == 0 || k.Side > 1 && zeros == sizes[1]+sizes[k.Side] {
			t.Errorf("there are %v singular matrices of %v, %d of them with zeros", sizes, k, zeros)
		}
		for range k.Singular() {
			break
		}
	}
}

func TestMoves(t *testing.T) {
	for _, k := range kinds()[1:] {
		for n := 1; n <= k.Side; n++ {
			m := k.Regular(n, 1)
			size := IntDet(m)
			for seed := range 100 {
				l := k.Moves(m, seed)
				for _, moved := range l {
					if got := IntDet(moved); errorOf(k, moved) != api.OK || got != size && got != -size {
						t.Fatalf("Moves(%v, %d) of %v has %v", m, seed, k, moved)
					}
				}
				if !Same(k.Moved(m, seed), l[len(l)-1]) {
					t.Fatalf("Moved(%v, %d) is not the last of the moves", m, seed)
				}
			}
			if n > 1 && Same(k.Moved(m, 1), m) {
				t.Errorf("the moves of %v leave it as it is", m)
			}
		}
	}
}

func TestMultiple(t *testing.T) {
	row := []int{3, 0, -4}
	if got := Multiple(row, -2); !slices.Equal(got, []int{-6, 0, 8}) || !slices.Equal(row, []int{3, 0, -4}) {
		t.Errorf("Multiple returns %v and leaves %v", got, row)
	}
}

func TestInLattice(t *testing.T) {
	for _, c := range []struct {
		m    [][]int
		x    []int
		want bool
	}{
		{[][]int{{-3}}, []int{6}, true},
		{[][]int{{-3}}, []int{5}, false},
		{[][]int{{2, 1}, {0, 3}}, []int{-2, 2}, true},
		{[][]int{{2, 1}, {0, 3}}, []int{-2, 1}, false},
		{[][]int{{2, 1}, {0, 3}}, []int{1, 2}, false},
		{[][]int{{2, 1, 1}, {1, 2, 1}, {1, 1, 2}}, []int{1, 0, -1}, true},
		{[][]int{{2, 1, 1}, {1, 2, 1}, {1, 1, 2}}, []int{1, 0, 0}, false},
	} {
		if got := InLattice(c.m, c.x); got != c.want {
			t.Errorf("InLattice(%v, %v) = %v", c.m, c.x, got)
		}
	}
}

func TestRank(t *testing.T) {
	for _, c := range []struct {
		m    [][]int
		want int
	}{
		{nil, 0},
		{[][]int{{}}, 0},
		{[][]int{{0}}, 0},
		{[][]int{{7}}, 1},
		{[][]int{{0, 0, 7}}, 1},
		{[][]int{{1, 2}, {2, 4}}, 1},
		{[][]int{{1, 2}, {2, 5}}, 2},
		{[][]int{{0, 0, 1}, {0, 0, 2}, {3, 0, 0}}, 2},
		{[][]int{{1, 2, 3}, {4, 5, 6}, {7, 8, 9}}, 2},
		{Unit(5), 5},
		{Filled(5, 4, 9_972), 1},
	} {
		if got := Rank(c.m); got != c.want {
			t.Errorf("Rank(%v) = %d, want %d", c.m, got, c.want)
		}
	}
}

func TestSubsets(t *testing.T) {
	for _, c := range []struct {
		n, many int
		want    [][]int
	}{
		{0, 0, [][]int{{}}},
		{2, 0, [][]int{{}}},
		{3, 1, [][]int{{0}, {1}, {2}}},
		{3, 2, [][]int{{0, 1}, {0, 2}, {1, 2}}},
		{3, 3, [][]int{{0, 1, 2}}},
		{3, 4, nil},
	} {
		if got := Subsets(c.n, c.many); !Same(got, c.want) {
			t.Errorf("Subsets(%d, %d) = %v, want %v", c.n, c.many, got, c.want)
		}
	}
}

func TestForm(t *testing.T) {
	for _, c := range []struct {
		pivots []int
		want   [][]int
	}{
		{nil, Filled(3, 4, 0)},
		{[]int{0}, [][]int{{1, 7, 7, 7}, {0, 0, 0, 0}, {0, 0, 0, 0}}},
		{[]int{1, 3}, [][]int{{0, 1, 7, 0}, {0, 0, 0, 1}, {0, 0, 0, 0}}},
		{[]int{0, 1, 2}, [][]int{{1, 0, 0, 7}, {0, 1, 0, 7}, {0, 0, 1, 7}}},
	} {
		if got := Form(c.pivots, Filled(3, 4, 7)); !Same(got, c.want) {
			t.Errorf("Form(%v) = %v, want %v", c.pivots, got, c.want)
		}
	}
}

func TestOrders(t *testing.T) {
	want := [][][]int{
		{{1}, {2}, {3}}, {{1}, {3}, {2}}, {{2}, {1}, {3}}, {{2}, {3}, {1}}, {{3}, {1}, {2}}, {{3}, {2}, {1}},
	}
	if got := Orders([][]int{{1}, {2}, {3}}); !slices.EqualFunc(got, want, Same) {
		t.Errorf("got %v", got)
	}
}

func TestOrdersOf(t *testing.T) {
	for n, want := range [][]int{nil, {1}, {1, -1}, {1, -1, -1, 1, 1, -1}} {
		all := OrdersOf(n)
		for k, sign := range want {
			if got := Sign(all[k]); got != sign {
				t.Errorf("Sign(%v) = %d, want %d", all[k], got, sign)
			}
		}
		for _, order := range all {
			if slices.Sort(order); !slices.Equal(order, UpTo(n)) {
				t.Errorf("there are numbers %v, want %v", order, UpTo(n))
			}
		}
	}
	if got := OrdersOf(3); !Same(got, [][]int{{0, 1, 2}, {0, 2, 1}, {1, 0, 2}, {1, 2, 0}, {2, 0, 1}, {2, 1, 0}}) {
		t.Errorf("OrdersOf(3) = %v", got)
	}
}

func TestFirst(t *testing.T) {
	for _, c := range []struct{ many, want, tried int }{{0, 0, 1}, {1, 1, 2}, {3, 3, 4}, {4, 4, 4}, {5, 4, 4}} {
		tried := 0
		got := First(func(yield func(int) bool) {
			for _, n := range []int{9, 7, 7, 5} {
				tried++
				if !yield(n) {
					return
				}
			}
		}, c.many)
		if !slices.Equal(got, []int{9, 7, 7, 5}[:c.want]) || tried != c.tried {
			t.Errorf("the first %d are %v, of %d", c.many, got, tried)
		}
	}
}

func TestElement(t *testing.T) {
	for _, c := range [][2]int{{0, 0}, {7, 7}, {9_972, 9_972}, {9_973, 0}, {-1, 9_972}, {-9_973, 0}, {99_735, 5}} {
		if got := Element(c[0]); got != c[1] {
			t.Errorf("Element(%d) = %d, want %d", c[0], got, c[1])
		}
	}
}

func TestPower(t *testing.T) {
	for _, c := range [][3]int{{0, 0, 1}, {7, 0, 1}, {0, 1, 0}, {7, 1, 7}, {3, 4, 81}, {9_972, 2, 1}, {100, 2, 27}, {2, 9_972, 1}} {
		if got := Power(c[0], c[1]); got != c[2] {
			t.Errorf("Power(%d, %d) = %d, want %d", c[0], c[1], got, c[2])
		}
	}
}

func TestFactorsOf(t *testing.T) {
	for _, c := range []struct{ roots, want []int }{
		{nil, nil},
		{[]int{0}, []int{0}},
		{[]int{7}, []int{7}},
		{[]int{1, 1}, []int{2, 9_972}},
		{[]int{1, 9_972}, []int{0, 1}},
		{[]int{2, 5}, []int{7, 9_963}},
		{[]int{1, 2, 3}, []int{6, 9_962, 6}},
	} {
		if got := FactorsOf(c.roots); !slices.Equal(got, c.want) {
			t.Errorf("FactorsOf(%v) = %v, want %v", c.roots, got, c.want)
		}
	}
}

func TestProduct(t *testing.T) {
	for _, c := range []struct{ f, g, want []int }{
		{[]int{0}, []int{7}, []int{0}},
		{[]int{2}, []int{3}, []int{6}},
		{[]int{1, 1}, []int{1, 1}, []int{1, 2, 1}},
		{[]int{1, 1}, []int{9_972, 1}, []int{9_972, 0, 1}},
		{[]int{0, 1}, []int{3, 4, 0}, []int{0, 3, 4, 0}},
		{[]int{100, 9_972}, []int{100}, []int{27, 9_873}},
		{[]int{1, 2, 3}, []int{4, 5, 6}, []int{4, 13, 28, 27, 18}},
	} {
		for _, pair := range [][2][]int{{c.f, c.g}, {c.g, c.f}} {
			if got := Product(pair[0], pair[1]); !slices.Equal(got, c.want) {
				t.Errorf("Product(%v, %v) = %v, want %v", pair[0], pair[1], got, c.want)
			}
		}
	}
}

func TestIntProduct(t *testing.T) {
	for _, c := range []struct{ f, g, want []int }{
		{[]int{0}, []int{-7}, []int{0}},
		{[]int{-2}, []int{3}, []int{-6}},
		{[]int{-1, 1}, []int{1, 1}, []int{-1, 0, 1}},
		{[]int{0, 1}, []int{3, -4, 0}, []int{0, 3, -4, 0}},
		{[]int{9_972, 1}, []int{9_972}, []int{9_972 * 9_972, 9_972}},
		{[]int{1, 2, 3}, []int{4, 5, 6}, []int{4, 13, 28, 27, 18}},
	} {
		for _, pair := range [][2][]int{{c.f, c.g}, {c.g, c.f}} {
			if got := IntProduct(pair[0], pair[1]); !slices.Equal(got, c.want) {
				t.Errorf("IntProduct(%v, %v) = %v, want %v", pair[0], pair[1], got, c.want)
			}
		}
	}
}

func TestWithRoots(t *testing.T) {
	for _, c := range []struct{ roots, want []int }{
		{nil, []int{1}},
		{[]int{0}, []int{0, 1}},
		{[]int{7}, []int{9_966, 1}},
		{[]int{1, 1}, []int{1, 9_971, 1}},
		{[]int{1, 9_972}, []int{9_972, 0, 1}},
		{[]int{1, 2, 3}, []int{9_967, 11, 9_967, 1}},
	} {
		if got := WithRoots(c.roots); !slices.Equal(got, c.want) {
			t.Errorf("WithRoots(%v) = %v, want %v", c.roots, got, c.want)
		}
	}
}

func TestValue(t *testing.T) {
	for _, c := range []struct {
		f       []int
		x, want int
	}{
		{nil, 7, 0},
		{[]int{7}, 0, 7},
		{[]int{7, 1}, 0, 7},
		{[]int{1, 2, 3}, 1, 6},
		{[]int{1, 2, 3}, 10, 321},
		{[]int{1, 2, 3}, 9_972, 2},
		{[]int{0, 0, 1}, 100, 27},
		{[]int{9_972, 9_972}, 9_972, 0},
	} {
		if got := Value(c.f, c.x); got != c.want {
			t.Errorf("Value(%v, %d) = %d, want %d", c.f, c.x, got, c.want)
		}
	}
}

// errorOf returns the error that the document wants for a list of rows.
func errorOf(k Kind, m [][]int) api.Errno {
	if len(m) == 0 || len(m[0]) == 0 {
		return api.ErrNone
	}
	if len(m) > k.Side || len(m[0]) > k.Side {
		return api.ErrFull
	}
	for _, row := range m {
		if len(row) != len(m[0]) {
			return api.ErrShape
		}
		if slices.Min(row) < k.Least || slices.Max(row) > k.Most {
			return api.ErrRange
		}
	}
	return api.OK
}

func TestBad(t *testing.T) {
	for _, k := range kinds() {
		count := map[api.Errno]int{}
		for m, want := range k.Bad() {
			if got := errorOf(k, m); got != want {
				t.Fatalf("%v of %v has %v, want %v", m, k, got, want)
			}
			count[want]++
		}
		// Rows are of different lengths only if there are two of them.
		if len(count) != min(k.Side, 2)+2 {
			t.Errorf("there are %d errors of %v", len(count), k)
		}
	}
	for m, want := range Bad() {
		if got := errorOf(Kind{5, 0, 9_972}, m); got != want {
			t.Fatalf("%v has %v, want %v", m, got, want)
		}
	}
	for range Bad() {
		break
	}
}

func TestNotSquare(t *testing.T) {
	for _, k := range kinds() {
		shapes, ranges := 0, 0
		for m, want := range k.NotSquare() {
			if len(m) == len(m[0]) {
				t.Fatalf("%v of %v is square", m, k)
			}
			switch got := errorOf(k, m); {
			case got == api.OK && want == api.ErrShape:
				shapes++
			case got == api.ErrRange && want == api.ErrRange:
				ranges++
			default:
				t.Fatalf("%v of %v has %v, want %v", m, k, got, want)
			}
		}
		if (shapes > 0) != (k.Side > 1) || (ranges > 0) != (k.Side > 1) {
			t.Errorf("there are %d and %d matrices of %v", shapes, ranges, k)
		}
		for range k.NotSquare() {
			break
		}
	}
	for m, want := range NotSquare() {
		if got := errorOf(Kind{5, 0, 9_972}, m); got != api.OK && got != want {
			t.Fatalf("%v has %v, want %v", m, got, want)
		}
	}
}

func TestMemory(t *testing.T) {
	m := [][]int{{1, 2}, {3, 4}}
	copied := Clone(m)
	spacious := Spacious(m)
	want := [][]int{{1, 2, -71, -72}, {3, 4, -71, -72}, {-73}}
	whole := Whole(spacious)
	for i, row := range whole[:len(want)] {
		if !slices.Equal(row[:len(want[i])], want[i]) {
			t.Errorf("Whole has the row %v", row)
		}
	}
	if !Same(spacious, m) || cap(spacious) < 3 {
		t.Errorf("Spacious(%v) = %v", m, spacious)
	}
	spacious[0][:3][2] = 5
	if Same(Whole(spacious), whole) {
		t.Errorf("Whole does not tell what is in spare capacity")
	}
	if !Spoil(m) || m[0] != nil || !Same(copied, [][]int{{1, 2}, {3, 4}}) {
		t.Errorf("Spoil leaves %v and %v", m, copied)
	}
	row := []int{1, 2, 3}
	for _, shared := range [][][]int{{row, row}, {row[:2], row[2:]}, {row[:1], {1}, row[1:]}} {
		if Spoil(shared) {
			t.Errorf("Spoil does not see that rows share memory")
		}
	}
}
