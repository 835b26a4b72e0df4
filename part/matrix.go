package part

import "math"

// isRow tells whether a matrix has a row.
func isRow(d [][]int, p int) bool {
	return p >= 0 && p < len(d)
}

// far answers how far a thing is from another one.
func far(d [][]int, p, i int) int {
	if !isRow(d, p) {
		return 0
	}
	return number(d[p], i)
}

// reach answers how far a thing and its radius are from another one.
func reach(d [][]int, more []int, p, i int) int {
	return together(far(d, p, i), number(more, i))
}

// number answers what stands at a place.
func number(l []int, i int) int {
	if i < 0 || i >= len(l) {
		return 0
	}
	return l[i]
}

// together answers the sum of two numbers. What is beyond all ints is as near to it as an int may be: wrapped round, what reaches farthest would seem to be nearest.
func together(a, b int) int {
	sum := a + b
	switch {
	case a > 0 && b > 0 && sum < 0:
		return math.MaxInt
	case a < 0 && b < 0 && sum >= 0:
		return math.MinInt
	}
	return sum
}
