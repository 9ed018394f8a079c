package sample

import "slices"

// UpTo returns the numbers from 0 to n-1.
func UpTo(n int) []int {
	var numbers []int
	for k := range n {
		numbers = append(numbers, k)
	}
	return numbers
}

// OrdersOf returns all orders of the numbers from 0 to n-1.
func OrdersOf(n int) [][]int {
	var column [][]int
	for _, k := range UpTo(n) {
		column = append(column, []int{k})
	}
	var l [][]int
	for _, rows := range Orders(column) {
		l = append(l, slices.Concat(rows...))
	}
	return l
}

// Sign returns the sign that the number of inversions gives an order.
func Sign(order []int) int {
	sign := 1
	for i, n := range order {
		for _, later := range order[i+1:] {
			if n > later {
				sign = -sign
			}
		}
	}
	return sign
}
