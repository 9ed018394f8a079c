package sample

// Product returns the product of two polynomials over the field, the coefficients
// of which are listed from the constant term on, and neither list is empty.
func Product(f, g []int) []int {
	return multiplyLists(f, g, Element)
}

// IntProduct returns the product of two polynomials with integer coefficients,
// listed in the same way.
func IntProduct(f, g []int) []int {
	return multiplyLists(f, g, asItIs)
}

// multiplyLists returns the product of two polynomials, whose coefficients are all
// reduced.
func multiplyLists(f, g []int, reduced func(n int) int) []int {
	l := make([]int, len(f)+len(g)-1)
	for i, a := range f {
		for j, b := range g {
			l[i+j] = reduced(l[i+j] + a*b)
		}
	}
	return l
}

// WithRoots returns the monic polynomial that has these roots.
func WithRoots(roots []int) []int {
	f := []int{1}
	for _, x := range roots {
		f = Product(f, []int{Element(-x), 1})
	}
	return f
}

// Value returns the value of a polynomial at an element.
func Value(f []int, x int) int {
	sum := 0
	for i, c := range f {
		sum += c * Power(x, i)
	}
	return sum % 9_973
}
