package sample

import "iter"

// First returns the first values, or all if there are not so many. It ends the loop
// when there is one more, so that a test sees whether others still come.
func First[T any](values iter.Seq[T], many int) []T {
	var first []T
	for value := range values {
		if len(first) == many {
			break
		}
		first = append(first, value)
	}
	return first
}
