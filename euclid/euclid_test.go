package euclid

import (
	"errors"
	"math"
	"testing"

	"rankmere/api"
)

// outside are numbers that no function of the package takes.
var outside = []int{api.MaxNum + 1, -api.MaxNum - 1, math.MaxInt, math.MinInt}

// edges are numbers at the limits, and some others of all sizes.
var edges = []int{
	-api.MaxNum, -api.MaxNum + 1, -999_983, -832_040, -514_229, -720_720, -9_973, -1_024, -7, -2, -1,
	0, 1, 2, 3, 12, 97, 1_024, 9_973, 500_000, 514_229, 524_288, 720_720, 832_040, 999_983, api.MaxNum - 1, api.MaxNum,
}

// plainGcd tries all numbers, as the definition says.
func plainGcd(a, b int) int {
	a, b = max(a, -a), max(b, -b)
	for d := max(a, b); d > 0; d-- {
		if a%d == 0 && b%d == 0 {
			return d
		}
	}
	return 0
}

func TestGcd(t *testing.T) {
	for _, c := range []struct{ a, b, want int }{
		{6, 4, 2},
		{4, 6, 2},
		{0, 0, 0},
		{0, 5, 5},
		{5, 0, 5},
		{-5, 0, 5},
		{0, -5, 5},
		{-6, 4, 2},
		{6, -4, 2},
		{-6, -4, 2},
		{7, 7, 7},
		{7, 5, 1},
		{1, api.MaxNum, 1},
		{api.MaxNum, api.MaxNum, api.MaxNum},
		{-api.MaxNum, api.MaxNum, api.MaxNum},
		{api.MaxNum, -api.MaxNum, api.MaxNum},
		{-api.MaxNum, -api.MaxNum, api.MaxNum},
		{0, -api.MaxNum, api.MaxNum},
		{-api.MaxNum, 0, api.MaxNum},
		{api.MaxNum, 999_999, 1},
		{720_720, 960_960, 240_240},
		{514_229, 832_040, 1},
	} {
		got, err := Gcd(c.a, c.b)
		if got != c.want || err != nil {
			t.Errorf("Gcd(%d, %d) = %d, %v, want %d", c.a, c.b, got, err, c.want)
		}
	}
}

func TestGcdOfSmallNumbers(t *testing.T) {
	for a := -50; a <= 50; a++ {
		for b := -50; b <= 50; b++ {
			want := plainGcd(a, b)
			if got, err := Gcd(a, b); got != want || err != nil {
				t.Fatalf("Gcd(%d, %d) = %d, %v, want %d", a, b, got, err, want)
			}
		}
	}
}

func TestGcdOutside(t *testing.T) {
	for _, bad := range outside {
		for _, other := range append(edges, outside...) {
			for _, c := range [][2]int{{bad, other}, {other, bad}} {
				got, err := Gcd(c[0], c[1])
				if got != 0 || !errors.Is(err, api.ErrRange) {
					t.Errorf("Gcd(%d, %d) = %d, %v, want 0 and ErrRange", c[0], c[1], got, err)
				}
			}
		}
	}
}

func TestBezout(t *testing.T) {
	for _, c := range []struct{ a, b, g, x, y int }{
		{3, 5, 1, 2, -1},
		{5, 3, 1, 2, -3},
		{12, 18, 6, 2, -1},
		{0, 0, 0, 0, 0},
		{4, 0, 4, 1, 0},
		{-4, 0, 4, -1, 0},
		{0, 4, 4, 0, 1},
		{0, -4, 4, 0, -1},
		{-3, 5, 1, 3, 2},
		{3, -5, 1, 2, 1},
		{-3, -5, 1, 3, -2},
		{6, 3, 3, 0, 1},
		{6, -3, 3, 0, -1},
		{3, 6, 3, 1, 0},
		{-3, 6, 3, 1, 1},
		{7, 1, 1, 0, 1},
		{7, -1, 1, 0, -1},
		{1, 7, 1, 1, 0},
		{5, 5, 5, 0, 1},
		{api.MaxNum, 0, api.MaxNum, 1, 0},
		{-api.MaxNum, 0, api.MaxNum, -1, 0},
		{0, -api.MaxNum, api.MaxNum, 0, -1},
		{api.MaxNum, api.MaxNum, api.MaxNum, 0, 1},
		{api.MaxNum, -api.MaxNum, api.MaxNum, 0, -1},
		{-1, api.MaxNum, 1, 999_999, 1},
		{-1, -api.MaxNum, 1, 999_999, -1},
		{999_999, api.MaxNum, 1, 999_999, -999_998},
		{-999_999, -api.MaxNum, 1, 1, -1},
	} {
		g, x, y, err := Bezout(c.a, c.b)
		if g != c.g || x != c.x || y != c.y || err != nil {
			t.Errorf("Bezout(%d, %d) = %d, %d, %d, %v, want %d, %d, %d", c.a, c.b, g, x, y, err, c.g, c.x, c.y)
		}
	}
}

// plainBezout tries all x from 0 on, as the definition says; b is not 0.
func plainBezout(a, b int) (g, x, y int) {
	g = plainGcd(a, b)
	for (g-a*x)%b != 0 {
		x++
	}
	return g, x, (g - a*x) / b
}

func TestBezoutOfSmallNumbers(t *testing.T) {
	for a := -50; a <= 50; a++ {
		for b := -50; b <= 50; b++ {
			if b == 0 {
				continue
			}
			wantG, wantX, wantY := plainBezout(a, b)
			g, x, y, err := Bezout(a, b)
			if g != wantG || x != wantX || y != wantY || err != nil {
				t.Fatalf("Bezout(%d, %d) = %d, %d, %d, %v, want %d, %d, %d", a, b, g, x, y, err, wantG, wantX, wantY)
			}
		}
	}
}

func TestBezoutWithoutSecond(t *testing.T) {
	for _, a := range edges {
		wantX := 0
		if a != 0 {
			wantX = a / max(a, -a)
		}
		g, x, y, err := Bezout(a, 0)
		if g != max(a, -a) || x != wantX || y != 0 || err != nil {
			t.Errorf("Bezout(%d, 0) = %d, %d, %d, %v, want %d, %d, 0", a, g, x, y, err, max(a, -a), wantX)
		}
	}
}

// TestBezoutAtEdges uses that x is the smallest number exactly if it is less
// than b/g, because two numbers x that have a y are apart by a multiple of b/g.
func TestBezoutAtEdges(t *testing.T) {
	for _, a := range edges {
		for _, b := range edges {
			if b == 0 {
				continue
			}
			want, _ := Gcd(a, b)
			g, x, y, err := Bezout(a, b)
			if err != nil || g != want || a*x+b*y != g || x < 0 || x >= max(b, -b)/g {
				t.Errorf("Bezout(%d, %d) = %d, %d, %d, %v", a, b, g, x, y, err)
			}
		}
	}
}

func TestBezoutOutside(t *testing.T) {
	for _, bad := range outside {
		for _, other := range append(edges, outside...) {
			for _, c := range [][2]int{{bad, other}, {other, bad}} {
				g, x, y, err := Bezout(c[0], c[1])
				if g != 0 || x != 0 || y != 0 || !errors.Is(err, api.ErrRange) {
					t.Errorf("Bezout(%d, %d) = %d, %d, %d, %v, want zeros and ErrRange", c[0], c[1], g, x, y, err)
				}
			}
		}
	}
}

func TestSteps(t *testing.T) {
	for _, c := range []struct{ a, b, want int }{
		{5, 3, 3},
		{3, 5, 3},
		{0, 0, 0},
		{0, 5, 0},
		{5, 0, 0},
		{1, 1, 1},
		{7, 7, 1},
		{6, 3, 1},
		{3, 6, 1},
		{2, 1, 1},
		{8, 5, 4},
		{0, api.MaxNum, 0},
		{api.MaxNum, 0, 0},
		{api.MaxNum, api.MaxNum, 1},
		{1, api.MaxNum, 1},
		{api.MaxNum, 1, 1},
		{api.MaxNum, 999_999, 2},
		// Neighbours in the sequence of Fibonacci take the most divisions.
		{832_040, 514_229, 28},
		{514_229, 832_040, 28},
	} {
		got, err := Steps(c.a, c.b)
		if got != c.want || err != nil {
			t.Errorf("Steps(%d, %d) = %d, %v, want %d", c.a, c.b, got, err, c.want)
		}
	}
}

// plainSteps counts the divisions as the definition says.
func plainSteps(a, b int) int {
	great, less := max(a, b), min(a, b)
	if less == 0 {
		return 0
	}
	return 1 + plainSteps(less, great%less)
}

func TestStepsOfSmallNumbers(t *testing.T) {
	for a := 0; a <= 120; a++ {
		for b := 0; b <= 120; b++ {
			want := plainSteps(a, b)
			if got, err := Steps(a, b); got != want || err != nil {
				t.Fatalf("Steps(%d, %d) = %d, %v, want %d", a, b, got, err, want)
			}
		}
	}
}

func TestStepsOutside(t *testing.T) {
	below := append([]int{-1, -2, -api.MaxNum}, outside...)
	for _, bad := range below {
		for _, other := range append(below, edges...) {
			for _, c := range [][2]int{{bad, other}, {other, bad}} {
				got, err := Steps(c[0], c[1])
				if got != 0 || !errors.Is(err, api.ErrRange) {
					t.Errorf("Steps(%d, %d) = %d, %v, want 0 and ErrRange", c[0], c[1], got, err)
				}
			}
		}
	}
}

// TestManyCalls makes as many calls as one of the program's runs well may, to
// see that none of them depends on how many were made before.
func TestManyCalls(t *testing.T) {
	for n := range api.MaxNum {
		g, x, y, err := Bezout(n+1, api.MaxNum-n)
		if err != nil || (n+1)*x+(api.MaxNum-n)*y != g {
			t.Fatalf("Bezout(%d, %d) = %d, %d, %d, %v", n+1, api.MaxNum-n, g, x, y, err)
		}
	}
	if n, err := Steps(5, 3); n != 3 || err != nil {
		t.Errorf("Steps(5, 3) = %d, %v, want 3", n, err)
	}
}
