// Package euclid computes greatest common divisors of two numbers, how they
// are made of both, and how long the Euclidean algorithm takes to find them.
package euclid

import (
	"rankmere/api"
)

// Gcd returns the greatest common divisor of a and b, which is 0 only if both
// are 0.
func Gcd(a, b int) (int, error) {
	if !allowed(a) || !allowed(b) {
		return 0, api.ErrRange
	}
	return divisor(size(a), size(b)), nil
}

// Bezout returns the greatest common divisor g of a and b, and x and y with
// a*x + b*y = g, of which x is the smallest possible number from 0 on, unless
// b is 0.
func Bezout(a, b int) (g, x, y int, err error) {
	g, err = Gcd(a, b)
	if err != nil {
		return 0, 0, 0, err
	}
	if b == 0 {
		// Here every y would do, and only one x unless a is 0 too.
		return g, sign(a), 0, nil
	}
	// Two numbers x that have a y are apart by a multiple of b/g.
	x = residue(factor(a, b), size(b)/g)
	return g, x, (g - a*x) / b, nil
}

// Steps returns the number of divisions of the Euclidean algorithm for a and b.
func Steps(a, b int) (int, error) {
	if a < 0 || b < 0 || !allowed(a) || !allowed(b) {
		return 0, api.ErrRange
	}
	if a < b {
		// Otherwise the first division would only exchange the numbers.
		a, b = b, a
	}
	steps := 0
	for b != 0 {
		a, b = b, a%b
		steps++
	}
	return steps, nil
}

// allowed tells whether the functions take n as an argument.
func allowed(n int) bool {
	return -api.MaxNum <= n && n <= api.MaxNum
}

// divisor returns the greatest common divisor of two numbers from 0 on.
func divisor(a, b int) int {
	for b != 0 {
		a, b = b, a%b
	}
	return a
}

// factor returns some number x for which b divides a*x - g, where g is the
// greatest common divisor of a and b.
func factor(a, b int) int {
	// At all times a0 is x0 times the first a, and a1 is x1 times the first a,
	// apart from multiples of the first b.
	a0, x0 := a, 1
	a1, x1 := b, 0
	for a1 != 0 {
		q := a0 / a1
		a0, a1 = a1, a0-q*a1
		x0, x1 = x1, x0-q*x1
	}
	// With negative numbers the algorithm may end at -g.
	if a0 < 0 {
		return -x0
	}
	return x0
}

// residue returns the number from 0 to m-1 that is congruent to n modulo m.
func residue(n, m int) int {
	n %= m
	if n < 0 {
		n += m
	}
	return n
}

// sign returns 1, 0 or -1.
func sign(n int) int {
	if n > 0 {
		return 1
	}
	if n < 0 {
		return -1
	}
	return 0
}

// size returns the absolute value of n.
func size(n int) int {
	if n < 0 {
		return -n
	}
	return n
}
