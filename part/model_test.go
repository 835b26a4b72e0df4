package part

import (
	"math"
	"math/big"
	"slices"
	"testing"

	"waywiser/api"
)

// cell is what stands in a row and a column, as the document says it.
func cell(d [][]int, p, i int) int {
	for row, l := range d {
		for column, n := range l {
			if row == p && column == i {
				return n
			}
		}
	}
	return 0
}

// radius is a thing's, as the document says it.
func radius(more []int, i int) int {
	for thing, n := range more {
		if thing == i {
			return n
		}
	}
	return 0
}

// both is how far one of two numbers and the other one are together: what no int is, as near to it as one may be.
func both(x, y int) int {
	sum := new(big.Int).Add(big.NewInt(int64(x)), big.NewInt(int64(y)))
	switch {
	case sum.IsInt64():
		return int(sum.Int64())
	case sum.Sign() > 0:
		return math.MaxInt
	}
	return math.MinInt
}

// divide is P25.1 in its own words.
func divide(d [][]int, a, b, policy int) ([]int, []int) {
	if a < 0 || b < 0 || a > len(d)-1 || b > len(d)-1 || a == b {
		return nil, nil
	}
	var left []int
	for i := range len(d) {
		if i != a && i != b {
			left = append(left, i)
		}
	}
	toA, toB := []int{a}, []int{b}
	for aTakes := true; len(left) > 0; aTakes = !aTakes {
		if policy == api.Plane {
			i := left[0]
			left = left[1:]
			if cell(d, a, i) > cell(d, b, i) {
				toB = append(toB, i)
			} else {
				toA = append(toA, i)
			}
			continue
		}
		if aTakes {
			toA, left = takes(d, a, toA, left)
		} else {
			toB, left = takes(d, b, toB, left)
		}
	}
	slices.Sort(toA)
	slices.Sort(toB)
	return toA, toB
}

// takes answers what p has, and what is left, when it has taken the nearest one of those that are left.
func takes(d [][]int, p int, has, left []int) ([]int, []int) {
	place := 0
	for at, i := range left {
		if cell(d, p, i) < cell(d, p, left[place]) {
			place = at
		}
	}
	return append(has, left[place]), slices.Delete(left, place, place+1)
}

// reaches is P25.2 in its own words.
func reaches(d [][]int, more []int, p int, l []int) int {
	var all []int
	for _, i := range l {
		all = append(all, both(cell(d, p, i), radius(more, i)))
	}
	if len(all) == 0 {
		return 0
	}
	return slices.Max(all)
}

// widest is the greater one of both Radii of a Divide.
func widest(d [][]int, more []int, a, b, policy int) int {
	toA, toB := divide(d, a, b, policy)
	x, y := reaches(d, more, a, toA), reaches(d, more, b, toB)
	if x > y {
		return x
	}
	return y
}

// promote is P25.3 in its own words.
func promote(d [][]int, more []int, policy int) (int, int, bool) {
	if len(d) < 2 {
		return 0, 1, false
	}
	first, second, least := -1, -1, 0
	for a := range len(d) {
		for b := range len(d) {
			if a >= b {
				continue
			}
			if wide := widest(d, more, a, b, policy); first < 0 || wide < least {
				first, second, least = a, b, wide
			}
		}
	}
	return first, second, true
}

// policies are both, and numbers that are none's, by which all is as by Even.
func policies() []int {
	return []int{api.Plane, api.Even, 0, 3, -1, -api.Plane, math.MinInt, math.MaxInt, 1<<32 + api.Plane}
}

// places are all of n rows, those around them, and the ends of all numbers.
func places(n int) []int {
	l := []int{math.MinInt, math.MinInt + 1, -1 << 32, -n - 1, -1}
	for at := range n + 2 {
		l = append(l, at)
	}
	return append(l, 2*n+2, 1<<32, math.MaxInt-1, math.MaxInt)
}

// line is the matrix of numbers on a line.
func line(numbers ...int) [][]int {
	var d [][]int
	for _, x := range numbers {
		var row []int
		for _, y := range numbers {
			row = append(row, max(x-y, y-x))
		}
		d = append(d, row)
	}
	return d
}

// rows are all rows of n numbers, each one of some.
func rows(n int, of []int) [][]int {
	if n == 0 {
		return [][]int{nil}
	}
	var all [][]int
	for _, fewer := range rows(n-1, of) {
		for _, number := range of {
			all = append(all, append(slices.Clone(fewer), number))
		}
	}
	return all
}

// matrices are all with so many rows of so many numbers, each one of some.
func matrices(n, wide int, of []int) [][][]int {
	if n == 0 {
		return [][][]int{nil}
	}
	var all [][][]int
	for _, fewer := range matrices(n-1, wide, of) {
		for _, row := range rows(wide, of) {
			all = append(all, append(slices.Clone(fewer), row))
		}
	}
	return all
}

// ragged are all with n rows, each of up to so many numbers.
func ragged(n, widest int, of []int) [][][]int {
	if n == 0 {
		return [][][]int{nil}
	}
	var all [][][]int
	for _, fewer := range ragged(n-1, widest, of) {
		for wide := range widest + 1 {
			for _, row := range rows(wide, of) {
				all = append(all, append(slices.Clone(fewer), row))
			}
		}
	}
	return all
}

// drawer hands out numbers below others, the same ones for each seed.
func drawer(seed uint64) func(below int) int {
	return func(below int) int {
		seed = seed*6364136223846793005 + 1442695040888963407
		return int(seed >> 33 % uint64(below))
	}
}

// question is a matrix, and radii.
type question struct {
	d    [][]int
	more []int
}

// spread is a question of n things at places in so many directions, whose radii are below top.
func spread(next func(below int) int, n, directions, wide, top int) question {
	var spots [][]int
	for range n {
		var spot []int
		for range directions {
			spot = append(spot, next(wide))
		}
		spots = append(spots, spot)
	}
	var q question
	for _, x := range spots {
		var row []int
		for _, y := range spots {
			far := 0
			for i := range x {
				far += max(x[i]-y[i], y[i]-x[i])
			}
			row = append(row, far)
		}
		q.d = append(q.d, row)
		q.more = append(q.more, next(top))
	}
	return q
}

// shaken is a question of n rows in no order, of which some are too short, and some too long.
func shaken(next func(below int) int, n, top int) question {
	var q question
	for range n {
		var row []int
		for range next(n + 4) {
			row = append(row, next(top)-top/4)
		}
		q.d = append(q.d, row)
	}
	for range next(n + 4) {
		q.more = append(q.more, next(top)-top/3)
	}
	return q
}

// mixed are questions of both kinds, of up to so many rows.
func mixed(seeds uint64, most int) []question {
	var all []question
	for seed := range seeds {
		next := drawer(seed)
		n := next(most + 1)
		for _, top := range []int{1, 2, 5, 40, 1 << 30} {
			all = append(all, shaken(next, n, top), spread(next, n, 1, top, 1), spread(next, n, 1, top, top), spread(next, n, 3, top, 2))
		}
	}
	return all
}

// checkDivide divides by two.
func checkDivide(t *testing.T, d [][]int, a, b, policy int) {
	t.Helper()
	toA, toB := Divide(d, a, b, policy)
	wantA, wantB := divide(d, a, b, policy)
	if !slices.Equal(toA, wantA) || !slices.Equal(toB, wantB) {
		t.Fatalf("Divide of %v, %d, %d, %d is %v, %v, want %v, %v", d, a, b, policy, toA, toB, wantA, wantB)
	}
}

// checkDivides divides by each two, by each policy.
func checkDivides(t *testing.T, d [][]int) {
	t.Helper()
	for a := -1; a <= len(d); a++ {
		for b := -1; b <= len(d); b++ {
			for _, policy := range []int{api.Plane, api.Even} {
				checkDivide(t, d, a, b, policy)
			}
		}
	}
}

// checkRadius asks how far one's things reach.
func checkRadius(t *testing.T, q question, p int, l []int) {
	t.Helper()
	if r, want := Radius(q.d, q.more, p, l), reaches(q.d, q.more, p, l); r != want {
		t.Fatalf("Radius of %v, %v, %d, %v is %d, want %d", q.d, q.more, p, l, r, want)
	}
}

// checkPromote asks which two are promoted by a policy.
func checkPromote(t *testing.T, q question, policy int) {
	t.Helper()
	a, b, ok := Promote(q.d, q.more, policy)
	wantA, wantB, wantOk := promote(q.d, q.more, policy)
	if a != wantA || b != wantB || ok != wantOk {
		t.Fatalf("Promote of %v, %v, %d is %d, %d, %t, want %d, %d, %t", q.d, q.more, policy, a, b, ok, wantA, wantB, wantOk)
	}
}
