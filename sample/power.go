package sample

// Power returns the n-th power of an element by n multiplications.
func Power(x, n int) int {
	p := 1
	for range n {
		p = p * x % 9_973
	}
	return p
}

// FactorsOf returns the factors of the sequences that are sums of the powers of
// these numbers, each times some number of its own.
func FactorsOf(roots []int) []int {
	// The polynomial with these roots, from its highest coefficient on.
	f := []int{1}
	for _, x := range roots {
		f = append(f, 0)
		for i := len(f) - 1; i > 0; i-- {
			f[i] = Element(f[i] - x*f[i-1])
		}
	}
	for i, n := range f {
		f[i] = Element(-n)
	}
	return f[1:]
}
