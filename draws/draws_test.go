package draws

import (
	"math"
	"math/big"
	"slices"
	"testing"
)

// ends are numbers around 0, and at the ends of all there are.
func ends() []int {
	return []int{
		math.MinInt, math.MinInt + 1, math.MinInt + 2, math.MinInt/2 - 1, math.MinInt / 2,
		math.MinInt32 - 1, math.MinInt32, math.MinInt32 + 1, -1000, -7, -3, -2, -1,
		0, 1, 2, 3, 7, 1000, math.MaxInt32, math.MaxInt32 + 1, math.MaxUint32, math.MaxUint32 + 1,
		math.MaxInt / 2, math.MaxInt/2 + 1, math.MaxInt - 2, math.MaxInt - 1, math.MaxInt,
	}
}

// noCounts are numbers below 1.
func noCounts() []int {
	return []int{0, -1, -2, -3, -7, math.MinInt32, math.MinInt + 1, math.MinInt}
}

// mod is the promise in its own words, in numbers of any size: 0 <= answer < n, and n divides what is between it and x.
func mod(x, n int) int {
	if n < 1 {
		return 0
	}
	// Euclid's rest is never below 0.
	return int(new(big.Int).Mod(big.NewInt(int64(x)), big.NewInt(int64(n))).Int64())
}

// model is the promise in its own words: the numbers that come, one behind the other, and how many were used.
type model struct {
	numbers []int
	rest    []int
	used    int
}

func newModel(l []int) *model {
	return &model{numbers: slices.Clone(l)}
}

func (m *model) pick(n int) int {
	if n < 1 {
		return 0
	}
	m.used++
	if len(m.numbers) == 0 {
		return 0
	}
	if len(m.rest) == 0 {
		m.rest = m.numbers
	}
	x := m.rest[0]
	m.rest = m.rest[1:]
	return mod(x, n)
}

// mixed are n numbers in no order, small and great, the same ones for each seed.
func mixed(seed uint64, n int) []int {
	var l []int
	for range n {
		seed = seed*6364136223846793005 + 1442695040888963407
		x := int(seed ^ seed>>29)
		if seed>>62 != 0 {
			x >>= 56
		}
		l = append(l, x)
	}
	return l
}

// lists are lists of all short lengths, of numbers around 0, great ones, and the same ones.
func lists() [][]int {
	l := [][]int{nil, {}, {0}, {-1}, {math.MinInt}, {math.MaxInt}, {5, 5}, {5, 5, 5}, {7, -1}, {0, 1, 2, 3}, ends(), noCounts()}
	for n := range 20 {
		l = append(l, mixed(uint64(n), n))
	}
	return l
}

// check picks by each of a list, and holds what is answered against the model.
func check(t *testing.T, s *Source, m *model, counts []int) {
	t.Helper()
	for i, n := range counts {
		if got, want := s.Pick(n), m.pick(n); got != want {
			t.Fatalf("of %v, Pick no. %d, of %d, answers %d, want %d", m.numbers, i, n, got, want)
		}
		if got := s.Used(); got != m.used {
			t.Fatalf("of %v, Used is %d behind Pick no. %d, of %d, want %d", m.numbers, got, i, n, m.used)
		}
	}
}

func TestP161ModSmall(t *testing.T) {
	for n := 1; n < 40; n++ {
		// The rests come one behind the other, whichever number is gone on from.
		want := 0
		for x := -5 * n; x <= 5*n; x++ {
			if got := Mod(x, n); got != want {
				t.Errorf("Mod of %d, %d is %d, want %d", x, n, got, want)
			}
			if want++; want == n {
				want = 0
			}
		}
	}
}

func TestP161ModEnds(t *testing.T) {
	for _, x := range append(ends(), mixed(1, 200)...) {
		for _, n := range append(ends(), mixed(2, 200)...) {
			if got, want := Mod(x, n), mod(x, n); got != want {
				t.Errorf("Mod of %d, %d is %d, want %d", x, n, got, want)
			}
		}
	}
}

func TestP161ModTold(t *testing.T) {
	for _, c := range [][3]int{
		{7, 3, 1}, {-7, 3, 2}, {-1, 3, 2}, {-3, 3, 0}, {3, 3, 0}, {2, 3, 2}, {0, 3, 0}, {5, 1, 0}, {-5, 1, 0},
		{math.MinInt, math.MaxInt, math.MaxInt - 1}, {math.MinInt, 2, 0}, {math.MaxInt, math.MaxInt, 0},
		{math.MaxInt - 1, math.MaxInt, math.MaxInt - 1}, {-1, math.MaxInt, math.MaxInt - 1},
	} {
		if got := Mod(c[0], c[1]); got != c[2] {
			t.Errorf("Mod of %d, %d is %d, want %d", c[0], c[1], got, c[2])
		}
	}
}

func TestP161ModOfNone(t *testing.T) {
	for _, n := range noCounts() {
		for _, x := range append(ends(), mixed(3, 50)...) {
			if got := Mod(x, n); got != 0 {
				t.Errorf("Mod of %d, %d is %d", x, n, got)
			}
		}
	}
}

func TestP161Example(t *testing.T) {
	s := New([]int{7, -1})
	for i, want := range []int{1, 2, 1} {
		if got := s.Pick(3); got != want {
			t.Errorf("Pick no. %d answers %d, want %d", i, got, want)
		}
	}
	if s.Used() != 3 {
		t.Errorf("Used is %d", s.Used())
	}
}

func TestP161New(t *testing.T) {
	for _, l := range lists() {
		s := New(l)
		if s == nil {
			t.Fatalf("New of %v answers nil", l)
		}
		if s.Used() != 0 {
			t.Errorf("of %v, Used is %d ahead of each Pick", l, s.Used())
		}
	}
}

// All numbers come in their order, and again, and again.
func TestP161Round(t *testing.T) {
	const below = 200
	for n := 1; n < 12; n++ {
		var l []int
		for i := range n {
			l = append(l, i*i)
		}
		s := New(l)
		for round := range 5 {
			for i, want := range l {
				if got := s.Pick(below); got != want {
					t.Fatalf("of %v, in round %d, place %d is %d", l, round, i, got)
				}
				if got := s.Used(); got != round*n+i+1 {
					t.Fatalf("of %v, in round %d, Used at place %d is %d", l, round, i, got)
				}
			}
		}
	}
}

// Each Pick asks for a count of its own.
func TestP161Picks(t *testing.T) {
	for _, l := range lists() {
		for _, counts := range append(lists(), slices.Repeat([]int{3}, 50), slices.Repeat([]int{1}, 9), mixed(4, 300)) {
			check(t, New(l), newModel(l), counts)
		}
	}
}

// All ways to pick six times by few counts, of all lists of up to three of few numbers.
func TestP161AllShort(t *testing.T) {
	few := []int{-1, 0, 1, 2, 5}
	all := [][]int{nil}
	for i := 0; i < len(all); i++ {
		for _, x := range few {
			if len(all[i]) < 6 {
				all = append(all, append(slices.Clone(all[i]), x))
			}
		}
	}
	for _, l := range all {
		if len(l) > 3 {
			break
		}
		for _, counts := range all {
			if len(counts) == 6 {
				check(t, New(l), newModel(l), counts)
			}
		}
	}
}

func TestP161NothingUsed(t *testing.T) {
	s := New([]int{4, 8, 6})
	none := func() {
		t.Helper()
		used := s.Used()
		for _, n := range noCounts() {
			if got := s.Pick(n); got != 0 || s.Used() != used {
				t.Errorf("Pick of %d is %d, Used is %d, was %d", n, got, s.Used(), used)
			}
		}
	}
	for i, want := range []int{4, 8, 6, 4, 8, 6, 4} {
		none()
		if got := s.Pick(10); got != want || s.Used() != i+1 {
			t.Errorf("Pick no. %d is %d, Used is %d, want %d", i, got, s.Used(), want)
		}
	}
	none()
}

// Of 1 there is nothing to pick; a number is used all the same.
func TestP161PickOfOne(t *testing.T) {
	s := New([]int{4, 8, 6})
	if got := s.Pick(1); got != 0 || s.Used() != 1 {
		t.Errorf("Pick of 1 is %d, Used is %d", got, s.Used())
	}
	if got := s.Pick(10); got != 8 {
		t.Errorf("the next one is %d", got)
	}
}

func TestP161WithoutNumbers(t *testing.T) {
	for _, s := range []*Source{New(nil), New([]int{}), New(make([]int, 0, 8))} {
		used := 0
		for _, n := range append(ends(), 1, 1, 4, 9) {
			if n > 0 {
				used++
			}
			if got := s.Pick(n); got != 0 {
				t.Errorf("Pick of %d is %d", n, got)
			}
			if got := s.Used(); got != used {
				t.Errorf("Used is %d behind Pick of %d, want %d", got, n, used)
			}
		}
	}
}

func TestP161Many(t *testing.T) {
	const n = 1 << 20
	l := mixed(5, n)
	s := New(l)
	for round := range 3 {
		for i, x := range l {
			if got, want := s.Pick(1000), ((x%1000)+1000)%1000; got != want {
				t.Fatalf("in round %d, place %d is %d, want %d", round, i, got, want)
			}
		}
	}
	if s.Used() != 3*n {
		t.Errorf("Used is %d", s.Used())
	}
}

func TestP162Nil(t *testing.T) {
	var s *Source
	for range 3 {
		for _, n := range append(ends(), mixed(6, 50)...) {
			if got := s.Pick(n); got != 0 {
				t.Errorf("Pick of %d of a nil one is %d", n, got)
			}
			if got := s.Used(); got != 0 {
				t.Errorf("Used of a nil one is %d behind Pick of %d", got, n)
			}
		}
	}
}

// What is handed in may become something else: the source stays.
func TestR3HandedIn(t *testing.T) {
	room := []int{3, 1, 4, 1, 5}
	l := room[:3]
	s, m := New(l), newModel(l)
	for range 4 {
		for i := range room {
			room[i] += 9
		}
		l = append(l[:1], 7)
		check(t, s, m, []int{10, 11})
	}
}

func TestR3HandedInStays(t *testing.T) {
	whole := []int{3, -1, 4, -1, 5}
	s := New(whole[:3])
	for range 9 {
		s.Pick(2)
		s.Pick(-2)
	}
	if !slices.Equal(whole, []int{3, -1, 4, -1, 5}) {
		t.Errorf("what was handed in became %v", whole)
	}
}

func TestR4EachItsOwn(t *testing.T) {
	l := []int{3, 1, 4}
	a, b := New(l), New(l)
	m, other := newModel(l), newModel(l)
	check(t, a, m, []int{10, 10})
	if b.Used() != 0 {
		t.Errorf("of the other one %d are used, too", b.Used())
	}
	check(t, b, other, []int{10})
	check(t, a, m, []int{10, 10})
	check(t, b, other, []int{10, 10, 10})
}

func TestR4AskingChangesNothing(t *testing.T) {
	l := mixed(7, 9)
	s, m := New(l), newModel(l)
	for range 40 {
		for range 3 {
			if got := s.Used(); got != m.used {
				t.Fatalf("Used is %d, want %d", got, m.used)
			}
			Mod(s.Used(), 3)
		}
		check(t, s, m, []int{1000})
	}
}
