package split

import (
	"math"
	"slices"
	"testing"

	"waywiser/api"
)

// away are fars by their places, as far as told.
func away(dists ...int) []Far {
	var l []Far
	for at, dist := range dists {
		l = append(l, Far{At: at, Dist: dist})
	}
	return l
}

// ahead tells by the words of the document whether a far is ahead of another one.
func ahead(x, y Far) bool {
	return y.Dist > x.Dist || y.Dist == x.Dist && y.At > x.At
}

// howMany counts those that are ahead of a far.
func howMany(l []Far, x Far) int {
	n := 0
	for _, y := range l {
		if ahead(y, x) {
			n++
		}
	}
	return n
}

// nth is the promise in its own words.
func nth(l []Far, k int) (Far, bool) {
	for _, x := range l {
		if howMany(l, x) == k {
			return x, true
		}
	}
	return Far{}, false
}

// halve is the promise in its own words.
func halve(l []Far, k int) ([]Far, []Far) {
	var first, others []Far
	for _, x := range l {
		if howMany(l, x) < k {
			first = append(first, x)
		} else {
			others = append(others, x)
		}
	}
	return first, others
}

// counts are all that can be of n fars, those around them, and those at the ends of all numbers.
func counts(n int) []int {
	l := []int{math.MinInt, math.MinInt + 1, -1 << 32, -n - 1, -n, -2, -1}
	for k := range n + 3 {
		l = append(l, k)
	}
	return append(l, 2*n, api.MaxObjects, 1<<32, math.MaxInt-1, math.MaxInt)
}

// checkNth asks for the nth by each count.
func checkNth(t *testing.T, l []Far) {
	t.Helper()
	for _, k := range counts(len(l)) {
		want, is := nth(l, k)
		if x, ok := Nth(l, k); x != want || ok != is {
			t.Fatalf("Nth of %v, %d is %v, %t, want %v, %t", l, k, x, ok, want, is)
		}
	}
}

// checkHalve asks for both parts by each count.
func checkHalve(t *testing.T, l []Far) {
	t.Helper()
	for _, k := range counts(len(l)) {
		first, others := Halve(l, k)
		wantFirst, wantOthers := halve(l, k)
		if !slices.Equal(first, wantFirst) || !slices.Equal(others, wantOthers) {
			t.Fatalf("Halve of %v, %d is %v, %v, want %v, %v", l, k, first, others, wantFirst, wantOthers)
		}
	}
}

// checkBounds asks for the ends, which are of l, and none of it is beyond them.
func checkBounds(t *testing.T, l []Far) {
	t.Helper()
	low, high := Bounds(l)
	if len(l) == 0 {
		if low != 1 || high != 0 {
			t.Fatalf("Bounds of none are %d, %d", low, high)
		}
		return
	}
	isLow, isHigh := false, false
	for _, x := range l {
		isLow, isHigh = isLow || x.Dist == low, isHigh || x.Dist == high
		if x.Dist < low || x.Dist > high {
			t.Fatalf("Bounds of %v are %d, %d", l, low, high)
		}
	}
	if !isLow || !isHigh {
		t.Fatalf("Bounds of %v are %d, %d", l, low, high)
	}
}

// orders are all orders of numbers that are unlike.
func orders(numbers []int) [][]int {
	if len(numbers) == 0 {
		return [][]int{nil}
	}
	var all [][]int
	for _, fewer := range orders(numbers[1:]) {
		for at := range numbers {
			all = append(all, slices.Insert(slices.Clone(fewer), at, numbers[0]))
		}
	}
	return all
}

// rows are all rows of n numbers, each one of some.
func rows(n int, of []int) [][]int {
	if n == 0 {
		return [][]int{nil}
	}
	var all [][]int
	for _, fewer := range rows(n-1, of) {
		for _, number := range of {
			all = append(all, append(slices.Clone(fewer), number))
		}
	}
	return all
}

// short are all lists of those places, in all orders, each far as far as one of some numbers.
func short(ats, dists []int) [][]Far {
	var all [][]Far
	for _, places := range orders(ats) {
		for _, row := range rows(len(ats), dists) {
			l := away(row...)
			for i := range l {
				l[i].At = places[i]
			}
			all = append(all, l)
		}
	}
	return all
}

// mixed are n fars with unlike Ats in no order, as far as numbers below top, alike for each seed.
func mixed(seed uint64, n int, top uint64) []Far {
	next := func(below uint64) int {
		seed = seed*6364136223846793005 + 1442695040888963407
		return int(seed >> 33 % below)
	}
	var l []Far
	for i := range n {
		l = append(l, Far{At: 3*i - n, Dist: next(top) - int(top/3)})
	}
	for i := range l {
		j := next(uint64(i) + 1)
		l[i], l[j] = l[j], l[i]
	}
	return l
}

// lists are mixed ones of many lengths, of which some have many that are as far as others.
func lists() [][]Far {
	var all [][]Far
	for seed := range uint64(40) {
		for _, top := range []uint64{1, 2, 5, 40, 1 << 30} {
			all = append(all, mixed(seed, int(seed*seed%83), top))
		}
	}
	return all
}

// shape is how far something at each place of n is.
type shape struct {
	name string
	dist func(at, n int) int
}

// shapes are fars in which one by its place alone may be a poor one to seek around.
func shapes() []shape {
	return []shape{
		{"rising", func(at, n int) int { return at }},
		{"falling", func(at, n int) int { return n - at }},
		{"alike", func(at, n int) int { return 7 }},
		{"valley", func(at, n int) int { return max(at-n/2, n/2-at) }},
		{"peak", func(at, n int) int { return min(at, n-at) }},
		{"saw", func(at, n int) int { return at % 5 }},
		{"slow saw", func(at, n int) int { return at % (n/5 + 1) }},
		{"first is last", func(at, n int) int { return (at + n - 1) % n }},
		{"last is first", func(at, n int) int { return (at + 1) % n }},
		{"in and out", func(at, n int) int { return at * (1 - at%2*2) }},
		{"shaken", func(at, n int) int { return at * 40503 % (n + 1) }},
	}
}

// of are n fars of a shape.
func (s shape) of(n int) []Far {
	l := make([]Far, n)
	for at := range l {
		l[at] = Far{At: at, Dist: s.dist(at, n)}
	}
	return l
}

func TestP181NthTold(t *testing.T) {
	l := away(5, 3, 4)
	for k, want := range []Far{{1, 3}, {2, 4}, {0, 5}} {
		if x, ok := Nth(l, k); x != want || !ok {
			t.Errorf("Nth of %d is %v, %t", k, x, ok)
		}
	}
	for _, k := range []int{math.MinInt, -1, 3, 4, math.MaxInt} {
		if x, ok := Nth(l, k); x != (Far{}) || ok {
			t.Errorf("Nth of %d is %v, %t", k, x, ok)
		}
	}
}

func TestP181HalveTold(t *testing.T) {
	l := away(5, 3, 4, 3)
	for k, want := range map[int][2][]Far{
		math.MinInt: {nil, l},
		-1:          {nil, l},
		0:           {nil, l},
		1:           {{{1, 3}}, {{0, 5}, {2, 4}, {3, 3}}},
		2:           {{{1, 3}, {3, 3}}, {{0, 5}, {2, 4}}},
		3:           {{{1, 3}, {2, 4}, {3, 3}}, {{0, 5}}},
		4:           {l, nil},
		5:           {l, nil},
		math.MaxInt: {l, nil},
	} {
		first, others := Halve(l, k)
		if !slices.Equal(first, want[0]) || !slices.Equal(others, want[1]) {
			t.Errorf("Halve of %d is %v, %v", k, first, others)
		}
	}
}

// Of the same Dist the lesser At is ahead, wherever it stands in the list.
func TestP181TheLesserAt(t *testing.T) {
	l := []Far{{At: 4, Dist: 1}, {At: -2, Dist: 1}, {At: 9, Dist: 0}, {At: 3, Dist: 1}, {At: -7, Dist: 2}}
	for k, at := range []int{9, -2, 3, 4, -7} {
		if x, ok := Nth(l, k); x.At != at || !ok {
			t.Errorf("Nth of %d is %v, %t", k, x, ok)
		}
	}
	first, others := Halve(l, 3)
	if !slices.Equal(first, []Far{{-2, 1}, {9, 0}, {3, 1}}) || !slices.Equal(others, []Far{{4, 1}, {-7, 2}}) {
		t.Error(first, others)
	}
}

// All lists of up to five, in all orders of their places.
func TestP181AllShort(t *testing.T) {
	for n := range 6 {
		for _, l := range short([]int{-1, 0, 1, 2, 5}[:n], []int{-1, 0, 3}[:3-n/5]) {
			checkNth(t, l)
			checkHalve(t, l)
		}
	}
}

func TestP181Mixed(t *testing.T) {
	for _, l := range lists() {
		checkNth(t, l)
		checkHalve(t, l)
	}
}

// Nothing runs over, where numbers are at the ends of all there are.
func TestP181Ends(t *testing.T) {
	ends := []int{math.MinInt, -1, 0, math.MaxInt}
	for _, l := range short(ends[:3], ends) {
		checkNth(t, l)
		checkHalve(t, l)
	}
	for _, l := range short(ends[1:], ends) {
		checkNth(t, l)
		checkHalve(t, l)
	}
}

func TestP181OfNothing(t *testing.T) {
	for _, l := range [][]Far{nil, {}} {
		checkNth(t, l)
		checkHalve(t, l)
	}
}

// Of fars that are the same none is ahead of the other: both are in one part.
func TestP181SameAts(t *testing.T) {
	for n := range 6 {
		for _, row := range rows(n, []int{0, 1, 2}) {
			l := away(row...)
			for i := range l {
				l[i].At = i % 2
			}
			checkHalve(t, l)
			for _, k := range counts(n) {
				x, ok := Nth(l, k)
				if ok != (k >= 0 && k < n) || ok != slices.Contains(l, x) && x != (Far{}) {
					t.Fatalf("Nth of %v, %d is %v, %t", l, k, x, ok)
				}
			}
		}
	}
}

// As many as there may be in an index, of each shape: each call ends soon.
func TestP181OfMany(t *testing.T) {
	for _, s := range shapes() {
		l := s.of(api.MaxObjects)
		k := len(l) / 3
		border, ok := Nth(l, k)
		if !ok || l[border.At] != border || howMany(l, border) != k {
			t.Errorf("%s: Nth of %d is %v, %t", s.name, k, border, ok)
		}
		if x, ok := Nth(l, len(l)); x != (Far{}) || ok {
			t.Errorf("%s: Nth of %d is %v, %t", s.name, len(l), x, ok)
		}
		first, others := Halve(l, k)
		for _, x := range l {
			part := &others
			if ahead(x, border) {
				part = &first
			}
			if len(*part) == 0 || (*part)[0] != x {
				t.Fatalf("%s: %v is not where it should be", s.name, x)
			}
			*part = (*part)[1:]
		}
	}
}

// What is sought around has so many on both sides that few rounds are left, whatever the shape.
func TestP181EverFewer(t *testing.T) {
	for _, s := range shapes() {
		for _, n := range []int{1, 2, 5, 6, 24, 25, 26, 1000, 3126} {
			l := s.of(n)
			x := middle(l)
			most := 7*n/10 + 6
			if first := howMany(l, x); first > most || n-1-first > most || !slices.Contains(l, x) {
				t.Errorf("%s: %d are ahead of the middle of %d, %v", s.name, first, n, x)
			}
		}
	}
}

func TestP182Told(t *testing.T) {
	for _, c := range []struct {
		l         []Far
		low, high int
	}{
		{nil, 1, 0},
		{[]Far{}, 1, 0},
		{away(4), 4, 4},
		{away(0), 0, 0},
		{away(5, 3, 4), 3, 5},
		{away(3, 4, 5), 3, 5},
		{away(5, 4, 3), 3, 5},
		{away(-5, -3), -5, -3},
		{away(2, -2, 2), -2, 2},
		{[]Far{{At: 100, Dist: 7}, {At: -100, Dist: 8}}, 7, 8},
		{away(math.MaxInt, math.MinInt), math.MinInt, math.MaxInt},
		{away(math.MaxInt, math.MaxInt), math.MaxInt, math.MaxInt},
		{away(math.MinInt), math.MinInt, math.MinInt},
	} {
		if low, high := Bounds(c.l); low != c.low || high != c.high {
			t.Errorf("Bounds of %v are %d, %d", c.l, low, high)
		}
	}
}

func TestP182AllShort(t *testing.T) {
	for n := range 6 {
		for _, row := range rows(n, []int{math.MinInt, -2, 0, 1, math.MaxInt}) {
			checkBounds(t, away(row...))
		}
	}
}

func TestP182Mixed(t *testing.T) {
	for _, l := range lists() {
		checkBounds(t, l)
	}
}

func TestP183InTwo(t *testing.T) {
	for _, l := range lists() {
		for _, k := range counts(len(l)) {
			first, others := Halve(l, k)
			_, high := Bounds(first)
			low, _ := Bounds(others)
			if len(first) > 0 && len(others) > 0 && high > low {
				t.Fatalf("Halve of %v, %d: %d in the first part, %d in the other one", l, k, high, low)
			}
			if len(first) != min(max(k, 0), len(l)) || len(first)+len(others) != len(l) {
				t.Fatalf("Halve of %v, %d: %v, %v", l, k, first, others)
			}
		}
	}
}

// What is handed in stays as it is, behind its end, too.
func TestR3HandedIn(t *testing.T) {
	for _, l := range lists() {
		room := append(slices.Clone(l), away(4, 2, 3)...)
		same := slices.Clone(room)
		handed := room[:len(l)]
		for _, k := range counts(len(l)) {
			Nth(handed, k)
			Halve(handed, k)
		}
		Bounds(handed)
		if !slices.Equal(room, same) {
			t.Fatalf("%v became %v", same, room)
		}
	}
}

// Both parts are new memory, and share none with each other.
func TestR3Answered(t *testing.T) {
	l := away(5, 3, 4, 9, 1, 2, 8, 0)
	for _, k := range counts(len(l)) {
		first, others := Halve(l, k)
		want := slices.Clone(others)
		for i := range first {
			first[i] = Far{At: 77, Dist: 77}
		}
		_ = append(first, slices.Repeat([]Far{{At: 66, Dist: 66}}, len(l))...)
		if !slices.Equal(others, want) {
			t.Fatalf("Halve of %d: %v became %v", k, want, others)
		}
		_ = append(others, slices.Repeat([]Far{{At: 55, Dist: 55}}, len(l))...)
		clear(others)
		if !slices.Equal(l, away(5, 3, 4, 9, 1, 2, 8, 0)) {
			t.Fatalf("Halve of %d: the list became %v", k, l)
		}
	}
}
