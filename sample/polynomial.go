package sample

// Product returns the product of two polynomials over the field, the coefficients
// of which are listed from the constant term on, and neither list is empty.
func Product(f, g []int) []int {
	l := make([]int, len(f)+len(g)-1)
	for i, a := range f {
		for j, b := range g {
			l[i+j] = (l[i+j] + a*b) % 9_973
		}
	}
	return l
}

// WithRoots returns the monic polynomial that has these roots.
func WithRoots(roots []int) []int {
	f := []int{1}
	for _, x := range roots {
		f = Product(f, []int{Element(-x), 1})
	}
	return f
}

// Value returns the value of a polynomial at an element.
func Value(f []int, x int) int {
	sum := 0
	for i, c := range f {
		sum += c * Power(x, i)
	}
	return sum % 9_973
}
