package sample

import (
	"slices"
	"testing"

	"rankmere/api"
)

func TestOutside(t *testing.T) {
	for _, n := range Outside() {
		if n >= 0 && n < 9_973 {
			t.Errorf("%d is an element", n)
		}
	}
}

func TestSizes(t *testing.T) {
	count := 0
	for rows, columns := range Sizes() {
		if rows != 1+count/5 || columns != 1+count%5 {
			t.Errorf("size %d is %d, %d", count, rows, columns)
		}
		count++
	}
	if count != 25 {
		t.Errorf("there are %d sizes", count)
	}
	for range Sizes() {
		break
	}
}

func TestMade(t *testing.T) {
	for _, c := range []struct{ got, want [][]int }{
		{Filled(2, 3, 7), [][]int{{7, 7, 7}, {7, 7, 7}}},
		{Filled(0, 3, 7), nil},
		{With(2, 3, 1, 2, 7), [][]int{{0, 0, 0}, {0, 0, 7}}},
		{Unit(2), [][]int{{1, 0}, {0, 1}}},
		{Mul([][]int{{1, 2}, {3, 4}}, [][]int{{5, 6}, {7, 8}}), [][]int{{19, 22}, {43, 50}}},
		{Mul([][]int{{9_972, 1}}, [][]int{{9_972}, {9_972}}), [][]int{{0}}},
		{Without([][]int{{1, 2, 3}, {4, 5, 6}, {7, 8, 9}}, 1, 2), [][]int{{1, 2}, {7, 8}}},
		{Mixed(3, 4, 1), Mixed(3, 4, 1)},
	} {
		if !Same(c.got, c.want) {
			t.Errorf("got %v, want %v", c.got, c.want)
		}
	}
	if Same(Mixed(1, 1, 1), Mixed(1, 1, 2)) {
		t.Errorf("two seeds make the same matrix")
	}
	for rows, columns := range Sizes() {
		for _, row := range Mixed(rows, columns, 1) {
			if len(row) != columns || slices.Min(row) < 0 || slices.Max(row) > 9_972 {
				t.Errorf("Mixed(%d, %d, 1) has the row %v", rows, columns, row)
			}
		}
	}
}

func TestDet(t *testing.T) {
	for _, c := range []struct {
		m    [][]int
		want int
	}{
		{nil, 1},
		{[][]int{{7}}, 7},
		{[][]int{{1, 2}, {3, 4}}, 9_971},
		{[][]int{{0, 1}, {1, 0}}, 9_972},
		{[][]int{{2, 0, 0}, {0, 3, 0}, {0, 0, 5}}, 30},
		{[][]int{{0, 0, 1}, {1, 0, 0}, {0, 1, 0}}, 1},
		{[][]int{{1, 2, 3}, {4, 5, 6}, {7, 8, 10}}, 9_970},
		{Filled(5, 5, 9_972), 0},
	} {
		if got := Det(c.m); got != c.want {
			t.Errorf("Det(%v) = %d, want %d", c.m, got, c.want)
		}
	}
	for n := 1; n <= 5; n++ {
		for seed := range 100 {
			if m := Invertible(n, seed); Det(m) == 0 {
				t.Errorf("Invertible(%d, %d) = %v", n, seed, m)
			}
		}
	}
}

func TestRank(t *testing.T) {
	for _, c := range []struct {
		m    [][]int
		want int
	}{
		{nil, 0},
		{[][]int{{}}, 0},
		{[][]int{{0}}, 0},
		{[][]int{{7}}, 1},
		{[][]int{{0, 0, 7}}, 1},
		{[][]int{{1, 2}, {2, 4}}, 1},
		{[][]int{{1, 2}, {2, 5}}, 2},
		{[][]int{{0, 0, 1}, {0, 0, 2}, {3, 0, 0}}, 2},
		{[][]int{{1, 2, 3}, {4, 5, 6}, {7, 8, 9}}, 2},
		{Unit(5), 5},
		{Filled(5, 4, 9_972), 1},
	} {
		if got := Rank(c.m); got != c.want {
			t.Errorf("Rank(%v) = %d, want %d", c.m, got, c.want)
		}
	}
}

func TestSubsets(t *testing.T) {
	for _, c := range []struct {
		n, many int
		want    [][]int
	}{
		{0, 0, [][]int{{}}},
		{2, 0, [][]int{{}}},
		{3, 1, [][]int{{0}, {1}, {2}}},
		{3, 2, [][]int{{0, 1}, {0, 2}, {1, 2}}},
		{3, 3, [][]int{{0, 1, 2}}},
		{3, 4, nil},
	} {
		if got := Subsets(c.n, c.many); !Same(got, c.want) {
			t.Errorf("Subsets(%d, %d) = %v, want %v", c.n, c.many, got, c.want)
		}
	}
}

func TestForm(t *testing.T) {
	for _, c := range []struct {
		pivots []int
		want   [][]int
	}{
		{nil, Filled(3, 4, 0)},
		{[]int{0}, [][]int{{1, 7, 7, 7}, {0, 0, 0, 0}, {0, 0, 0, 0}}},
		{[]int{1, 3}, [][]int{{0, 1, 7, 0}, {0, 0, 0, 1}, {0, 0, 0, 0}}},
		{[]int{0, 1, 2}, [][]int{{1, 0, 0, 7}, {0, 1, 0, 7}, {0, 0, 1, 7}}},
	} {
		if got := Form(c.pivots, Filled(3, 4, 7)); !Same(got, c.want) {
			t.Errorf("Form(%v) = %v, want %v", c.pivots, got, c.want)
		}
	}
}

func TestOrders(t *testing.T) {
	want := [][][]int{
		{{1}, {2}, {3}}, {{1}, {3}, {2}}, {{2}, {1}, {3}}, {{2}, {3}, {1}}, {{3}, {1}, {2}}, {{3}, {2}, {1}},
	}
	if got := Orders([][]int{{1}, {2}, {3}}); !slices.EqualFunc(got, want, Same) {
		t.Errorf("got %v", got)
	}
}

// errorOf returns the error that the document wants for a list of rows.
func errorOf(m [][]int) api.Errno {
	if len(m) == 0 || len(m[0]) == 0 {
		return api.ErrNone
	}
	if len(m) > 5 || len(m[0]) > 5 {
		return api.ErrFull
	}
	for _, row := range m {
		if len(row) != len(m[0]) {
			return api.ErrShape
		}
		if slices.Min(row) < 0 || slices.Max(row) > 9_972 {
			return api.ErrRange
		}
	}
	return api.OK
}

func TestBad(t *testing.T) {
	count := map[api.Errno]int{}
	for m, want := range Bad() {
		if got := errorOf(m); got != want {
			t.Fatalf("%v has %v, want %v", m, got, want)
		}
		count[want]++
	}
	if len(count) != 4 {
		t.Errorf("there are %d errors", len(count))
	}
	for range Bad() {
		break
	}
}

func TestMemory(t *testing.T) {
	m := [][]int{{1, 2}, {3, 4}}
	copied := Clone(m)
	spacious := Spacious(m)
	want := [][]int{{1, 2, -71, -72}, {3, 4, -71, -72}, {-73}}
	whole := Whole(spacious)
	for i, row := range whole[:len(want)] {
		if !slices.Equal(row[:len(want[i])], want[i]) {
			t.Errorf("Whole has the row %v", row)
		}
	}
	if !Same(spacious, m) || cap(spacious) < 3 {
		t.Errorf("Spacious(%v) = %v", m, spacious)
	}
	spacious[0][:3][2] = 5
	if Same(Whole(spacious), whole) {
		t.Errorf("Whole does not tell what is in spare capacity")
	}
	if !Spoil(m) || m[0] != nil || !Same(copied, [][]int{{1, 2}, {3, 4}}) {
		t.Errorf("Spoil leaves %v and %v", m, copied)
	}
	row := []int{1, 2, 3}
	for _, shared := range [][][]int{{row, row}, {row[:2], row[2:]}, {row[:1], {1}, row[1:]}} {
		if Spoil(shared) {
			t.Errorf("Spoil does not see that rows share memory")
		}
	}
}
