package field

import (
	"errors"
	"math"
	"slices"
	"testing"

	"rankmere/api"
)

// outside are numbers that are no elements.
var outside = []int{
	-1, -2, -api.Prime + 1, -api.Prime, api.Prime, api.Prime + 1, 2 * api.Prime, api.MaxNum, -api.MaxNum,
	1 << 32, -1 << 32, math.MaxInt, math.MinInt,
}

// badExponents are numbers that are no exponents.
var badExponents = []int{-1, -2, -api.Prime, -api.MaxNum, api.MaxNum + 1, 1 << 32, math.MaxInt, math.MinInt}

// edges are elements at the limits, and some others of all sizes. 11 generates
// all elements but 0.
var edges = []int{
	0, 1, 2, 3, 4, 7, 10, 11, 99, 100, 277, 1_234, 4_985, 4_986, 4_987, 5_000, 5_678, 8_191,
	api.Prime - 11, api.Prime - 3, api.Prime - 2, api.Prime - 1,
}

// operation is one of Add, Mul and Div.
type operation struct {
	name string
	call func(a, b int) (int, error)
}

// operations returns the functions of two elements.
func operations() []operation {
	return []operation{{"Add", Add}, {"Mul", Mul}, {"Div", Div}}
}

// wantResult fails the test unless a call returned this and no error.
func wantResult(t *testing.T, name string, a, b, got int, err error, want int) {
	t.Helper()
	if got != want || err != nil {
		t.Fatalf("%s(%d, %d) = %d, %v, want %d", name, a, b, got, err, want)
	}
}

// wantError fails the test unless a call returned 0 and this error.
func wantError(t *testing.T, name string, a, b, got int, err error, want api.Errno) {
	t.Helper()
	if got != 0 || !errors.Is(err, want) {
		t.Fatalf("%s(%d, %d) = %d, %v, want 0 and %v", name, a, b, got, err, want)
	}
}

func TestAdd(t *testing.T) {
	for _, c := range []struct{ a, b, want int }{
		{0, 0, 0},
		{0, 1, 1},
		{1, 0, 1},
		{2, 3, 5},
		{9_971, 1, 9_972},
		{9_972, 0, 9_972},
		{0, 9_972, 9_972},
		{9_972, 1, 0},
		{1, 9_972, 0},
		{9_972, 2, 1},
		{9_972, 9_972, 9_971},
		{4_986, 4_986, 9_972},
		{4_986, 4_987, 0},
		{4_987, 4_987, 1},
	} {
		got, err := Add(c.a, c.b)
		wantResult(t, "Add", c.a, c.b, got, err, c.want)
	}
}

// TestAddOfAll counts on from b, as one more is one more or, behind the last
// element, 0.
func TestAddOfAll(t *testing.T) {
	for _, b := range edges {
		want := b
		for a := range api.Prime {
			got, err := Add(a, b)
			wantResult(t, "Add", a, b, got, err, want)
			got, err = Add(b, a)
			wantResult(t, "Add", b, a, got, err, want)
			want++
			if want == api.Prime {
				want = 0
			}
		}
	}
}

func TestMul(t *testing.T) {
	for _, c := range []struct{ a, b, want int }{
		{0, 0, 0},
		{0, 9_972, 0},
		{9_972, 0, 0},
		{1, 1, 1},
		{2, 5, 10},
		{5, 2, 10},
		{1, 9_972, 9_972},
		{9_972, 1, 9_972},
		{9_972, 9_972, 1},
		{9_971, 9_972, 2},
		{100, 100, 27},
		{1_234, 5_678, 5_606},
		{3, 6_649, 1},
		{2, 4_987, 1},
	} {
		got, err := Mul(c.a, c.b)
		wantResult(t, "Mul", c.a, c.b, got, err, c.want)
	}
}

// TestMulOfAll adds b again and again, and so needs no product.
func TestMulOfAll(t *testing.T) {
	for _, b := range edges {
		want := 0
		for a := range api.Prime {
			got, err := Mul(a, b)
			wantResult(t, "Mul", a, b, got, err, want)
			got, err = Mul(b, a)
			wantResult(t, "Mul", b, a, got, err, want)
			want += b
			if want >= api.Prime {
				want -= api.Prime
			}
		}
	}
}

func TestDiv(t *testing.T) {
	for _, c := range []struct{ a, b, want int }{
		{1, 1, 1},
		{0, 1, 0},
		{0, 9_972, 0},
		{6, 3, 2},
		{9_972, 1, 9_972},
		{9_972, 9_972, 1},
		{1, 9_972, 9_972},
		{1, 2, 4_987},
		{1, 3, 6_649},
		{3, 7, 7_124},
		{5_000, 7, 2_139},
		{7, 7, 1},
	} {
		got, err := Div(c.a, c.b)
		wantResult(t, "Div", c.a, c.b, got, err, c.want)
	}
}

// TestDivOfAll checks the product, which is enough because one element alone
// has it.
func TestDivOfAll(t *testing.T) {
	for _, a := range edges {
		for b := 1; b < api.Prime; b++ {
			got, err := Div(a, b)
			if err != nil || got < 0 || got >= api.Prime || got*b%api.Prime != a {
				t.Fatalf("Div(%d, %d) = %d, %v", a, b, got, err)
			}
		}
	}
}

func TestDivOfAllByEdges(t *testing.T) {
	for a := range api.Prime {
		for _, b := range edges[1:] {
			got, err := Div(a, b)
			if err != nil || got < 0 || got >= api.Prime || got*b%api.Prime != a {
				t.Fatalf("Div(%d, %d) = %d, %v", a, b, got, err)
			}
		}
	}
}

func TestDivByZero(t *testing.T) {
	for a := range api.Prime {
		got, err := Div(a, 0)
		wantError(t, "Div", a, 0, got, err, api.ErrNone)
	}
}

// TestDivOutsideByZero checks that no element comes before a division by 0.
func TestDivOutsideByZero(t *testing.T) {
	for _, a := range outside {
		got, err := Div(a, 0)
		wantError(t, "Div", a, 0, got, err, api.ErrRange)
		if errors.Is(err, api.ErrNone) {
			t.Errorf("Div(%d, 0) returns ErrNone", a)
		}
	}
}

func TestOutside(t *testing.T) {
	for _, op := range operations() {
		for _, bad := range outside {
			for _, other := range slices.Concat(edges, outside) {
				got, err := op.call(bad, other)
				wantError(t, op.name, bad, other, got, err, api.ErrRange)
				got, err = op.call(other, bad)
				wantError(t, op.name, other, bad, got, err, api.ErrRange)
			}
		}
	}
}

func TestPow(t *testing.T) {
	for _, c := range []struct{ a, n, want int }{
		{0, 0, 1},
		{0, 1, 0},
		{0, 2, 0},
		{0, api.MaxNum, 0},
		{1, 0, 1},
		{1, api.MaxNum, 1},
		{2, 0, 1},
		{2, 1, 2},
		{2, 10, 1_024},
		{2, api.MaxNum, 933},
		{3, 9_971, 6_649},
		{3, 9_972, 1},
		{3, 9_973, 3},
		{5, api.MaxNum, 8_532},
		{9_971, 999_999, 4_520},
		{9_972, 0, 1},
		{9_972, 1, 9_972},
		{9_972, 999_999, 9_972},
		{9_972, api.MaxNum, 1},
	} {
		got, err := Pow(c.a, c.n)
		wantResult(t, "Pow", c.a, c.n, got, err, c.want)
	}
}

func TestPowOfAll(t *testing.T) {
	for a := range api.Prime {
		want := 1
		for n := range 40 {
			got, err := Pow(a, n)
			wantResult(t, "Pow", a, n, got, err, want)
			want = want * a % api.Prime
		}
	}
}

// TestPowToAllExponents multiplies by a once for each exponent.
func TestPowToAllExponents(t *testing.T) {
	for _, a := range []int{0, 2, 11, api.Prime - 1} {
		want := 1
		for n := range api.MaxNum + 1 {
			got, err := Pow(a, n)
			wantResult(t, "Pow", a, n, got, err, want)
			want = want * a % api.Prime
		}
	}
}

func TestPowOutside(t *testing.T) {
	exponents := slices.Concat([]int{0, 1, 2, 10, api.Prime, api.MaxNum}, badExponents)
	for _, a := range outside {
		for _, n := range exponents {
			got, err := Pow(a, n)
			wantError(t, "Pow", a, n, got, err, api.ErrRange)
		}
	}
	for _, a := range edges {
		for _, n := range badExponents {
			got, err := Pow(a, n)
			wantError(t, "Pow", a, n, got, err, api.ErrRange)
		}
	}
}
