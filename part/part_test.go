package part

import (
	"math"
	"reflect"
	"slices"
	"testing"

	"waywiser/api"
)

func TestP251Told(t *testing.T) {
	for _, c := range []struct {
		what     string
		d        [][]int
		a, b     int
		policy   int
		toA, toB []int
	}{
		{"the chapter's", line(0, 1, 8, 9), 0, 2, api.Plane, []int{0, 1}, []int{2, 3}},
		{"the chapter's", line(0, 1, 8, 9), 0, 2, api.Even, []int{0, 1}, []int{2, 3}},
		{"the other one first", line(0, 1, 8, 9), 2, 0, api.Plane, []int{2, 3}, []int{0, 1}},
		{"the other one first", line(0, 1, 8, 9), 2, 0, api.Even, []int{2, 3}, []int{0, 1}},
		{"as far from both", line(0, 10, 5), 0, 1, api.Plane, []int{0, 2}, []int{1}},
		{"as far from both", line(0, 10, 5), 1, 0, api.Plane, []int{1, 2}, []int{0}},
		{"all at one place", line(7, 7, 7, 7, 7), 3, 1, api.Plane, []int{0, 2, 3, 4}, []int{1}},
		{"all at one place", line(7, 7, 7, 7, 7), 3, 1, api.Even, []int{0, 3, 4}, []int{1, 2}},
		{"all at one place", line(7, 7, 7, 7, 7, 7), 3, 1, api.Even, []int{0, 3, 4}, []int{1, 2, 5}},
		{"all near to one", line(0, 100, 1, 2, 3, 4), 0, 1, api.Plane, []int{0, 2, 3, 4, 5}, []int{1}},
		{"all near to one", line(0, 100, 1, 2, 3, 4), 0, 1, api.Even, []int{0, 2, 3}, []int{1, 4, 5}},
		{"all near to the other one", line(0, 100, 99, 98, 97, 96), 0, 1, api.Plane, []int{0}, []int{1, 2, 3, 4, 5}},
		{"all near to the other one", line(0, 100, 99, 98, 97, 96), 0, 1, api.Even, []int{0, 4, 5}, []int{1, 2, 3}},
		{"what one took the other one can't take", line(10, 12, 11, 30), 0, 1, api.Even, []int{0, 2}, []int{1, 3}},
		{"what one took the other one can't take", line(10, 12, 11, 30), 1, 0, api.Even, []int{1, 2}, []int{0, 3}},
		{"two alone", line(3, 9), 0, 1, api.Plane, []int{0}, []int{1}},
		{"two alone", line(3, 9), 1, 0, api.Even, []int{1}, []int{0}},
		{"three: a takes", line(3, 9, 8), 0, 1, api.Even, []int{0, 2}, []int{1}},
	} {
		toA, toB := Divide(c.d, c.a, c.b, c.policy)
		if !slices.Equal(toA, c.toA) || !slices.Equal(toB, c.toB) {
			t.Errorf("%s: by %d and %d, policy %d: %v, %v", c.what, c.a, c.b, c.policy, toA, toB)
		}
	}
}

// How far a thing is from another one stands in the row of that.
func TestP251RowsOfTheTwo(t *testing.T) {
	d := [][]int{
		{0, 7, 1, 9, 1, 9},
		{7, 0, 9, 1, 9, 1},
		{9, 1, 0, 0, 0, 0},
		{1, 9, 0, 0, 0, 0},
		{9, 1, 0, 0, 0, 0},
		{1, 9, 0, 0, 0, 0},
	}
	for _, policy := range policies() {
		if toA, toB := Divide(d, 0, 1, policy); !slices.Equal(toA, []int{0, 2, 4}) || !slices.Equal(toB, []int{1, 3, 5}) {
			t.Error(policy, toA, toB)
		}
	}
}

// The two go to themselves, also where they are told to be nearer to the other one.
func TestP251TheTwoThemselves(t *testing.T) {
	d := [][]int{{9, 0, 3, 4}, {0, 9, 4, 3}, nil, nil}
	for _, policy := range policies() {
		for _, c := range [][2]int{{0, 1}, {1, 0}} {
			toA, toB := Divide(d, c[0], c[1], policy)
			if !slices.Equal(toA, []int{c[0], c[0] + 2}) || !slices.Equal(toB, []int{c[1], c[1] + 2}) {
				t.Error(policy, c, toA, toB)
			}
		}
	}
}

// What isn't there counts as 0, and what no thing is plays no part.
func TestP251WhatIsNotThere(t *testing.T) {
	for _, c := range []struct {
		what     string
		d        [][]int
		policy   int
		toA, toB []int
	}{
		{"no numbers", [][]int{nil, nil, nil, nil, {}}, api.Plane, []int{0, 2, 3, 4}, []int{1}},
		{"no numbers", [][]int{nil, nil, nil, nil, {}}, api.Even, []int{0, 2, 4}, []int{1, 3}},
		{"a short row of a", [][]int{{0, 5, 4}, {5, 0, 1, 1, 0}, nil, nil, nil}, api.Plane, []int{0, 3, 4}, []int{1, 2}},
		{"a short row of a", [][]int{{0, 5, 4}, {5, 0, 1, 1, 2}, nil, nil, nil}, api.Even, []int{0, 3, 4}, []int{1, 2}},
		{"a short row of b", [][]int{{0, 5, 4, 1, 0}, {5, 0, 3}, nil, nil, nil}, api.Plane, []int{0, 4}, []int{1, 2, 3}},
		{"a short row of b", [][]int{{0, 5, 4, 1, 2}, {5, 0, 3}, nil, nil, nil}, api.Even, []int{0, 2, 3}, []int{1, 4}},
		{"numbers below 0 ahead of what isn't there", [][]int{{0, 0, 1, 0, -1}, nil, nil, nil, nil, nil}, api.Plane, []int{0, 3, 4, 5}, []int{1, 2}},
		{"numbers below 0 ahead of what isn't there", [][]int{{0, 0, 1, 0, -1}, nil, nil, nil, nil, nil}, api.Even, []int{0, 3, 4}, []int{1, 2, 5}},
		{"rows that are too long", [][]int{{0, 5, 1, 0, 0, 0}, {5, 0, 2, 0, 0, 0, 0}, nil}, api.Plane, []int{0, 2}, []int{1}},
		{"rows that are too long", [][]int{{0, 5, 1, 0, 0, 0}, {5, 0, 2, 0, 0, 0, 0}, nil}, api.Even, []int{0, 2}, []int{1}},
	} {
		toA, toB := Divide(c.d, 0, 1, c.policy)
		if !slices.Equal(toA, c.toA) || !slices.Equal(toB, c.toB) {
			t.Errorf("%s, policy %d: %v, %v", c.what, c.policy, toA, toB)
		}
	}
}

// No row, and twice the same one: none, and none.
func TestP251NoTwo(t *testing.T) {
	for n := range 4 {
		d := line([]int{4, 0, 9, 5}[:n]...)
		for _, a := range places(n) {
			for _, b := range places(n) {
				for _, policy := range policies() {
					checkDivide(t, d, a, b, policy)
				}
			}
		}
	}
	for _, d := range [][][]int{nil, {}, {nil}, {{0, 1}}, {{0, 1, 2}, {1, 0, 3}}} {
		for _, c := range [][2]int{{-1, 0}, {0, -1}, {len(d), 0}, {0, len(d)}, {0, 0}, {1, 1}, {math.MinInt, math.MaxInt}, {math.MaxInt, 0}} {
			for _, policy := range policies() {
				if toA, toB := Divide(d, c[0], c[1], policy); len(toA)+len(toB) != 0 {
					t.Errorf("%v by %v, policy %d: %v, %v", d, c, policy, toA, toB)
				}
			}
		}
	}
}

// All policies that aren't Plane are as Even is.
func TestP251OtherPolicies(t *testing.T) {
	for _, q := range mixed(20, 9) {
		for a := range q.d {
			for b := range q.d {
				toA, toB := Divide(q.d, a, b, api.Even)
				for _, policy := range policies()[1:] {
					otherA, otherB := Divide(q.d, a, b, policy)
					if !slices.Equal(toA, otherA) || !slices.Equal(toB, otherB) {
						t.Fatalf("%v by %d and %d, policy %d: %v, %v, by Even %v, %v", q.d, a, b, policy, otherA, otherB, toA, toB)
					}
				}
			}
		}
	}
}

// All short matrices, and all rows of two of somewhat longer ones.
func TestP251AllShort(t *testing.T) {
	for n := range 4 {
		for _, d := range ragged(n, 4-n/3, []int{0, 1}) {
			checkDivides(t, d)
		}
	}
	for _, two := range matrices(2, 5, []int{-1, 0, 2}) {
		checkDivides(t, [][]int{two[0], nil, two[1], {0, 1, 2, 3, 4}, nil})
	}
}

func TestP251Mixed(t *testing.T) {
	for _, q := range mixed(60, 17) {
		checkDivides(t, q.d)
	}
}

// Distances are compared as they are, at the ends of all numbers, too.
func TestP251Ends(t *testing.T) {
	ends := []int{math.MinInt, -1, math.MaxInt}
	for _, two := range matrices(2, 4, ends) {
		checkDivides(t, [][]int{two[0], two[1], nil, nil})
	}
	for _, two := range matrices(2, 2, []int{math.MinInt, -1, 0, api.MaxDist, api.MaxDist + 1, math.MaxInt}) {
		checkDivides(t, [][]int{{0, 0, two[0][0], two[0][1]}, {0, 0, two[1][0], two[1][1]}, nil, nil})
	}
}

// As many things as there may be in an index: each call ends soon.
func TestP251OfMany(t *testing.T) {
	const n = api.MaxObjects
	rising, falling := make([]int, n), make([]int, n)
	for i := range n {
		rising[i], falling[i] = i, n-1-i
	}
	for _, c := range []struct {
		what       string
		rowA, rowB []int
		a, b       int
		policy     int
		isA        func(i int) bool
	}{
		{"from both ends", rising, falling, 0, n - 1, api.Plane, func(i int) bool { return i < n/2 }},
		{"from both ends", rising, falling, 0, n - 1, api.Even, func(i int) bool { return i < n/2 }},
		{"the same nearest ones", rising, rising, 0, 1, api.Plane, func(i int) bool { return i != 1 }},
		{"the same nearest ones", rising, rising, 0, 1, api.Even, func(i int) bool { return i%2 == 0 }},
		{"the last ones first", falling, falling, 1, 0, api.Even, func(i int) bool { return i%2 == 1 }},
		{"numbers of one alone", nil, rising, 0, 1, api.Plane, func(i int) bool { return i != 1 }},
		{"numbers of the other one alone", rising, nil, 0, 1, api.Plane, func(i int) bool { return i == 0 }},
		{"no numbers", nil, nil, 1, 0, api.Even, func(i int) bool { return i%2 == 0 && i > 0 || i == 1 }},
	} {
		d := make([][]int, n)
		d[c.a], d[c.b] = c.rowA, c.rowB
		toA, toB := Divide(d, c.a, c.b, c.policy)
		for i := range n {
			part := &toB
			// The two themselves aren't asked for.
			if i == c.a || i != c.b && c.isA(i) {
				part = &toA
			}
			if len(*part) == 0 || (*part)[0] != i {
				t.Fatalf("%s, policy %d: %d is not where it should be", c.what, c.policy, i)
			}
			*part = (*part)[1:]
		}
		if len(toA)+len(toB) != 0 {
			t.Errorf("%s, policy %d: %d and %d are left", c.what, c.policy, len(toA), len(toB))
		}
	}
}

func TestP252Told(t *testing.T) {
	d := line(0, 1, 8, 9, 2)
	for _, c := range []struct {
		more []int
		p    int
		l    []int
		want int
	}{
		{nil, 0, []int{0, 1, 4}, 2},
		{[]int{0, 5}, 0, []int{0, 1, 4}, 6},
		{[]int{0, 5}, 0, []int{0, 4}, 2},
		{[]int{3, 0, 0, 0, 0}, 0, []int{0, 1, 4}, 3},
		{[]int{3, 0, 0, 0, 0}, 0, []int{0}, 3},
		{[]int{0, 0, 0, 0, 2}, 1, []int{0, 1, 4}, 3},
		{[]int{0, 0, 9, 7}, 0, []int{2, 3}, 17},
		{[]int{0, 0, 9, 8}, 0, []int{2, 3}, 17},
		{[]int{0, 0, 9, 9}, 0, []int{2, 3}, 18},
		{[]int{0, 0, 9, 9}, 0, []int{3, 2}, 18},
		{nil, 2, []int{2}, 0},
		{nil, 3, []int{1, 1, 1}, 8},
		{[]int{7, 7, 7, 7, 7}, 1, nil, 0},
		{[]int{7, 7, 7, 7, 7}, 1, []int{}, 0},
		{[]int{-3, -3, -3, -3, -3}, 1, []int{0, 4}, -2},
		{[]int{-3, -3, -3, -3, -3}, 1, []int{0, 1, 3}, 5},
		{[]int{api.MaxDist, api.MaxDist}, 0, []int{1}, api.MaxDist + 1},
	} {
		if r := Radius(d, c.more, c.p, c.l); r != c.want {
			t.Errorf("Radius of %v, %d, %v is %d, want %d", c.more, c.p, c.l, r, c.want)
		}
	}
}

// How far a thing is stands in the row of the one that reaches for it.
func TestP252TheRow(t *testing.T) {
	d := [][]int{{0, 4, 5}, {10, 0, 20}, {30, 40, 0}}
	for p, want := range []int{5, 20, 40} {
		if r := Radius(d, nil, p, []int{0, 1, 2}); r != want {
			t.Error(p, r)
		}
	}
}

// What isn't there counts as 0, ahead of numbers below 0, too: places that no row, no column and no radius has.
func TestP252WhatIsNotThere(t *testing.T) {
	q := question{[][]int{{0, -4, 5}, nil, {-7}, {-1, -2, -3, 8, 9}}, []int{-2, 3, -20, -6}}
	ats := places(5)
	for _, p := range ats {
		checkRadius(t, q, p, ats)
		for _, i := range ats {
			checkRadius(t, q, p, []int{i})
			for _, j := range ats {
				checkRadius(t, q, p, []int{i, j})
			}
		}
	}
	for _, of := range []question{{}, {more: []int{4, -1}}, {d: [][]int{}, more: []int{}}, {d: [][]int{{1, -2}, nil}}} {
		for _, p := range ats {
			checkRadius(t, of, p, nil)
			for _, i := range ats {
				checkRadius(t, of, p, []int{i})
			}
		}
	}
}

// A thing that no row is reaches as far as its column and its radius tell.
func TestP252BeyondTheRows(t *testing.T) {
	d, more := [][]int{{0, 4, 5}}, []int{1, 1, 2, 9}
	for _, c := range []struct{ p, i, want int }{{0, 2, 7}, {0, 3, 9}, {0, 4, 0}, {0, -1, 0}, {1, 2, 2}, {-1, 3, 9}, {-1, -1, 0}, {1, 4, 0}} {
		if r := Radius(d, more, c.p, []int{c.i}); r != c.want {
			t.Error(c, r)
		}
	}
}

func TestP252Mixed(t *testing.T) {
	for seed, q := range mixed(60, 17) {
		next := drawer(uint64(seed))
		for range 20 {
			n := len(q.d) + 3
			var l []int
			for range next(n) {
				l = append(l, next(n+2)-2)
			}
			checkRadius(t, q, next(n)-1, l)
		}
	}
}

// What is beyond all ints is told to be as near to it as one may be.
func TestP252Ends(t *testing.T) {
	ends := []int{math.MinInt, math.MinInt + 1, math.MinInt / 2, -1, 0, 1, api.MaxDist, math.MaxInt/2 + 1, math.MaxInt - 1, math.MaxInt}
	for _, far := range ends {
		for _, more := range ends {
			checkRadius(t, question{[][]int{{far}}, []int{more}}, 0, []int{0})
			for _, other := range ends {
				checkRadius(t, question{[][]int{{far, other}}, []int{more, 2}}, 0, []int{0, 1})
				checkRadius(t, question{[][]int{{far, -2}}, []int{more, other}}, 0, []int{1, 0})
			}
		}
	}
	if r := Radius([][]int{{1}}, []int{math.MaxInt}, 0, []int{0}); r != math.MaxInt {
		t.Error(r)
	}
	if r := Radius([][]int{{-1}}, []int{math.MinInt}, 0, []int{0}); r != math.MinInt {
		t.Error(r)
	}
}

func TestP252OfMany(t *testing.T) {
	const n = api.MaxObjects
	d, more, l := [][]int{make([]int, n)}, make([]int, n), make([]int, n)
	for i := range n {
		d[0][i], more[i], l[i] = i, 2*(n-i), n-1-i
	}
	if r := Radius(d, more, 0, l); r != 2*n {
		t.Error(r)
	}
	if r := Radius(d, nil, 0, l); r != n-1 {
		t.Error(r)
	}
}

func TestP253Told(t *testing.T) {
	for _, c := range []struct {
		what   string
		d      [][]int
		more   []int
		policy int
		a, b   int
	}{
		{"the chapter's", line(0, 1, 8, 9), nil, api.Plane, 0, 2},
		{"the chapter's", line(0, 1, 8, 9), nil, api.Even, 0, 2},
		{"a radius", line(0, 1, 8, 9), []int{9, 0, 0, 0}, api.Plane, 0, 1},
		{"a radius", line(0, 1, 8, 9), []int{9, 0, 0, 0}, api.Even, 0, 1},
		{"a lesser radius", line(0, 1, 8, 9), []int{7, 0, 0, 0}, api.Even, 0, 2},
		{"all at one place", line(3, 3, 3), nil, api.Plane, 0, 1},
		{"all at one place", line(3, 3, 3), nil, api.Even, 0, 1},
		{"two", line(3, 90), nil, api.Plane, 0, 1},
		{"two", line(3, 90), []int{5, 6}, api.Even, 0, 1},
		{"the middles of both", line(0, 1, 2, 100, 101, 102), nil, api.Plane, 1, 4},
		{"the middles of both", line(0, 1, 2, 100, 101, 102), nil, api.Even, 1, 4},
		{"the last two", line(0, 10, 2, 12, 1, 11), nil, api.Plane, 4, 5},
		{"the last two", line(0, 10, 2, 12, 1, 11), nil, api.Even, 4, 5},
		{"one alone", line(0, 1, 2, 3, 100), nil, api.Plane, 1, 4},
		{"one alone must not be", line(0, 1, 2, 3, 100), nil, api.Even, 0, 4},
		{"the least a", line(0, 2, 10, 12, 0), nil, api.Plane, 0, 2},
		{"the least b", line(0, 0, 7, 9, 7), nil, api.Plane, 0, 2},
		{"the greater one of both counts", line(0, 4, 8, 50, 51), nil, api.Plane, 1, 3},
		{"the greater one of both counts, the other way round", line(51, 50, 8, 4, 0), nil, api.Plane, 0, 3},
		{"no numbers", make([][]int, 9), nil, api.Plane, 0, 1},
		{"radii alone", make([][]int, 9), []int{4, 3, 8}, api.Even, 0, 1},
		{"numbers below 0", [][]int{{-1, -1, -1}, {-2, -2, -2}, {-3, -3, -3}}, []int{-9, -9, -9}, api.Plane, 1, 2},
	} {
		if a, b, ok := Promote(c.d, c.more, c.policy); a != c.a || b != c.b || !ok {
			t.Errorf("%s, policy %d: %d, %d, %t", c.what, c.policy, a, b, ok)
		}
	}
}

func TestP253TooFew(t *testing.T) {
	for _, d := range [][][]int{nil, {}, {nil}, {{}}, {{0}}, {{0, 4, 9}}} {
		for _, more := range [][]int{nil, {}, {7}, {7, 8, 9}} {
			for _, policy := range policies() {
				if a, b, ok := Promote(d, more, policy); a != 0 || b != 1 || ok {
					t.Errorf("%v, %v, policy %d: %d, %d, %t", d, more, policy, a, b, ok)
				}
			}
		}
	}
}

func TestP253AllShort(t *testing.T) {
	for _, policy := range []int{api.Plane, api.Even} {
		for _, more := range rows(3, []int{-1, 0, 2}) {
			for n := range 3 {
				for _, d := range ragged(n, 3, []int{-1, 0, 3}) {
					checkPromote(t, question{d, more}, policy)
				}
			}
		}
		for _, d := range matrices(3, 3, []int{0, 1, 2}) {
			for _, more := range [][]int{nil, {1}, {0, 2}, {0, 0, 1}} {
				checkPromote(t, question{d, more}, policy)
			}
		}
	}
}

// All of some numbers on a line, with one radius or none.
func TestP253Lines(t *testing.T) {
	for _, numbers := range rows(5, []int{0, 1, 4, 9}) {
		d := line(numbers...)
		for _, more := range [][]int{nil, {2}, {0, 0, 0, 0, 3}} {
			checkPromote(t, question{d, more}, api.Plane)
			checkPromote(t, question{d, more}, api.Even)
		}
	}
}

func TestP253Mixed(t *testing.T) {
	for _, q := range mixed(60, 17) {
		checkPromote(t, q, api.Plane)
		checkPromote(t, q, api.Even)
	}
	for _, q := range mixed(60, 7) {
		for _, policy := range policies() {
			checkPromote(t, q, policy)
		}
	}
}

// Radii are held against each other as Radius tells them, at the ends of all numbers, too.
func TestP253Ends(t *testing.T) {
	ends := []int{math.MinInt, math.MinInt + 2, -1, math.MaxInt - 2, math.MaxInt}
	for seed := range uint64(600) {
		next := drawer(seed)
		var q question
		for range 2 + next(5) {
			var row []int
			for range 6 {
				row = append(row, ends[next(len(ends))])
			}
			q.d = append(q.d, row)
			q.more = append(q.more, ends[next(len(ends))])
		}
		for _, more := range [][]int{nil, q.more} {
			checkPromote(t, question{q.d, more}, api.Plane)
			checkPromote(t, question{q.d, more}, api.Even)
		}
	}
}

// As many things as a node has at most, and one more: each call ends soon.
func TestP253OfMany(t *testing.T) {
	const n = api.MaxCap + 1
	for seed := range uint64(3) {
		next := drawer(seed)
		for _, q := range []question{spread(next, n, 1, 1<<30, 1), spread(next, n, 3, 1000, 300), spread(next, n, 40, 9, 1), spread(next, n, 2, 3, 1), shaken(next, n, 1000), {line(make([]int, n)...), nil}, {make([][]int, n), nil}} {
			for _, policy := range []int{api.Plane, api.Even} {
				a, b, ok := Promote(q.d, q.more, policy)
				if !ok || a >= b || a < 0 || b >= n {
					t.Fatal(seed, policy, a, b, ok)
				}
				checkLeast(t, q, policy, a, b)
			}
		}
	}
}

// checkLeast asks of many pairs that none of them is less wide than the one that is promoted, or as wide and ahead of it.
func checkLeast(t *testing.T, q question, policy, a, b int) {
	t.Helper()
	wide := func(a, b int) int {
		toA, toB := Divide(q.d, a, b, policy)
		return max(Radius(q.d, q.more, a, toA), Radius(q.d, q.more, b, toB))
	}
	next := drawer(uint64(a<<20 + b))
	promoted := wide(a, b)
	for range 2000 {
		x, y := next(len(q.d)), next(len(q.d))
		if x >= y {
			continue
		}
		other := wide(x, y)
		if other < promoted || other == promoted && (x < a || x == a && y < b) {
			t.Fatalf("policy %d promotes %d, %d of %d, where %d, %d are of %d", policy, a, b, promoted, x, y, other)
		}
	}
}

// Thousands of rows without any numbers, and hundreds of which no two are alike: few pairs are divided by, and few rows put in order.
func TestP253OfMore(t *testing.T) {
	numbers := make([]int, 999)
	for i := range numbers {
		numbers[i] = i
	}
	q := question{line(numbers...), nil}
	// 500 things need one that reaches 250 far, and no two that reach 249 far have more than 998.
	if a, b, ok := Promote(q.d, q.more, api.Plane); a != 247 || b != 748 || !ok {
		t.Error(a, b, ok)
	}
	a, b, ok := Promote(q.d, q.more, api.Even)
	if !ok {
		t.Error(a, b, ok)
	}
	checkLeast(t, q, api.Even, a, b)
	for _, policy := range policies() {
		if a, b, ok := Promote(make([][]int, 1<<12), nil, policy); a != 0 || b != 1 || !ok {
			t.Error(policy, a, b, ok)
		}
	}
}

func TestP254EachToOne(t *testing.T) {
	for _, q := range mixed(40, 15) {
		for a := range q.d {
			for b := range q.d {
				if a == b {
					continue
				}
				for _, policy := range policies() {
					toA, toB := Divide(q.d, a, b, policy)
					all := slices.Concat(toA, toB)
					slices.Sort(all)
					for i := range q.d {
						if len(all) != len(q.d) || all[i] != i {
							t.Fatalf("%v by %d and %d, policy %d: %v, %v", q.d, a, b, policy, toA, toB)
						}
					}
					if !slices.Contains(toA, a) || !slices.Contains(toB, b) || !slices.IsSorted(toA) || !slices.IsSorted(toB) {
						t.Fatalf("%v by %d and %d, policy %d: %v, %v", q.d, a, b, policy, toA, toB)
					}
					if more := len(toA) - len(toB); policy != api.Plane && more != len(q.d)%2 {
						t.Fatalf("%v by %d and %d, policy %d: %v, %v", q.d, a, b, policy, toA, toB)
					}
				}
			}
		}
	}
}

// roomy is a matrix and radii behind whose ends there is something, too.
func roomy(q question) question {
	r := question{more: append(slices.Clone(q.more), 5, 6)[:len(q.more)]}
	for _, row := range q.d {
		r.d = append(r.d, append(slices.Clone(row), 7, 8)[:len(row)])
	}
	r.d = append(r.d, []int{9})[:len(r.d)]
	return r
}

// whole is all of a matrix and radii, with what is behind their ends.
func whole(q question) question {
	all := question{more: slices.Clone(q.more[:cap(q.more)])}
	for _, row := range q.d[:cap(q.d)] {
		all.d = append(all.d, slices.Clone(row[:cap(row)]))
	}
	return all
}

// What is handed in stays as it is, behind its end, too.
func TestR3HandedIn(t *testing.T) {
	for _, q := range mixed(12, 9) {
		q = roomy(q)
		was := whole(q)
		l := []int{3, 1, 2, 9, 0}
		for _, policy := range policies() {
			for a := range len(q.d) + 1 {
				for b := range len(q.d) + 1 {
					Divide(q.d, a, b, policy)
				}
				Radius(q.d, q.more, a, l[:4])
			}
			Promote(q.d, q.more, policy)
		}
		if !reflect.DeepEqual(whole(q), was) || !slices.Equal(l, []int{3, 1, 2, 9, 0}) {
			t.Fatalf("%v became %v", was, whole(q))
		}
	}
}

// Both parts are new memory, and share none with each other, or with what is answered later.
func TestR3Answered(t *testing.T) {
	d := line(5, 3, 4, 9, 1, 2, 8, 0)
	for _, policy := range policies() {
		toA, toB := Divide(d, 1, 3, policy)
		wantA, wantB := slices.Clone(toA), slices.Clone(toB)
		clear(toA)
		_ = append(toA, slices.Repeat([]int{66}, len(d))...)
		if !slices.Equal(toB, wantB) {
			t.Fatalf("policy %d: %v became %v", policy, wantB, toB)
		}
		_ = append(toB, slices.Repeat([]int{55}, len(d))...)
		clear(toB)
		againA, againB := Divide(d, 1, 3, policy)
		if !slices.Equal(againA, wantA) || !slices.Equal(againB, wantB) || !reflect.DeepEqual(d, line(5, 3, 4, 9, 1, 2, 8, 0)) {
			t.Fatalf("policy %d: %v, %v", policy, againA, againB)
		}
	}
}

// What is answered hangs on what is asked alone: asked twice, and with something else between.
func TestR4Again(t *testing.T) {
	l := mixed(12, 9)
	for i, q := range l {
		a, b, ok := Promote(q.d, q.more, api.Even)
		other := l[(i+1)%len(l)]
		Promote(other.d, other.more, api.Plane)
		if x, y, is := Promote(q.d, q.more, api.Even); x != a || y != b || is != ok {
			t.Fatal(q, a, b, ok, x, y, is)
		}
	}
}
