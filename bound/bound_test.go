package bound

import (
	"math"
	"testing"

	"waywiser/api"
)

const far = api.MaxDist

// edges are small distances, the ends of all distances, and numbers that are no distances.
func edges() []int {
	return []int{
		math.MinInt, math.MinInt + 1, -far - 1, -far, -2, -1,
		0, 1, 2, 3, 5, 8,
		far - 2, far - 1, far, far + 1, far + 2, 2 * far, math.MaxInt - 1, math.MaxInt,
	}
}

// counted answers the distance as which a number counts, by the document's words.
func counted(n int) int {
	switch {
	case n < 0:
		return 0
	case n > 1<<50:
		return 1 << 50
	}
	return n
}

// gap answers how far two points of a line are from each other.
func gap(x, y int) int {
	if x < y {
		return y - x
	}
	return x - y
}

func TestMostIsMaxDist(t *testing.T) {
	if most != api.MaxDist {
		t.Error(most, api.MaxDist)
	}
}

func TestP11Apart(t *testing.T) {
	for _, c := range []struct{ a, b, want int }{
		{3, 10, 7}, {10, 3, 7}, {4, 4, 0}, {0, 0, 0}, {0, 6, 6}, {6, 0, 6},
		{far, 0, far}, {0, far, far}, {far, far, 0}, {far - 1, far, 1},
		{-5, 3, 3}, {3, -5, 3}, {-5, -9, 0}, {-1, 0, 0},
		{far + 1, far, 0}, {far + 9, far - 1, 1}, {far + 1, 0, far},
		{math.MinInt, math.MaxInt, far}, {math.MaxInt, math.MinInt, far},
		{math.MinInt, math.MinInt, 0}, {math.MaxInt, math.MaxInt, 0}, {math.MinInt, 7, 7},
	} {
		if got := Apart(c.a, c.b); got != c.want {
			t.Errorf("Apart(%d, %d) = %d, want %d", c.a, c.b, got, c.want)
		}
	}
}

func TestP11Sum(t *testing.T) {
	for _, c := range []struct{ a, b, want int }{
		{3, 4, 7}, {4, 3, 7}, {0, 0, 0}, {0, 6, 6}, {5, 5, 10},
		{far, 0, far}, {far, far, 2 * far}, {far, 1, far + 1}, {far - 1, 2, far + 1},
		{-5, 3, 3}, {3, -5, 3}, {-5, -9, 0},
		{far + 1, 0, far}, {far + 1, 5, far + 5},
		{math.MaxInt, math.MinInt, far}, {math.MinInt, math.MaxInt, far},
		{math.MaxInt, math.MaxInt, 2 * far}, {math.MinInt, math.MinInt, 0},
	} {
		if got := Sum(c.a, c.b); got != c.want {
			t.Errorf("Sum(%d, %d) = %d, want %d", c.a, c.b, got, c.want)
		}
	}
}

// On a line two points that are a and b from 0 come just as near, and as far, as the triangle lets them.
func TestP11OnALine(t *testing.T) {
	for a := range 12 {
		for b := range 12 {
			least := min(gap(a, b), gap(a, -b))
			greatest := max(gap(a, b), gap(a, -b))
			if Apart(a, b) != least || Sum(a, b) != greatest {
				t.Errorf("%d and %d: %d to %d, want %d to %d", a, b, Apart(a, b), Sum(a, b), least, greatest)
			}
		}
	}
}

func TestP12Ring(t *testing.T) {
	for _, c := range []struct{ q, low, high, want int }{
		{5, 8, 9, 3}, {12, 8, 9, 3}, {8, 8, 9, 0}, {9, 8, 9, 0}, {7, 6, 9, 0}, {7, 8, 9, 1}, {10, 8, 9, 1},
		{4, 4, 4, 0}, {0, 4, 4, 4}, {6, 4, 4, 2},
		{5, 9, 8, 3}, {12, 9, 8, 3}, {8, 9, 8, 0}, {7, 9, 6, 0}, {3, 0, far, 0}, {3, far, 0, 0},
		{-1, 4, 6, 4}, {-1, 6, 4, 4}, {3, -7, 2, 1}, {3, 2, -7, 1}, {3, -7, -5, 3}, {3, -5, -7, 3}, {0, -7, -5, 0},
		{far, 0, 1, far - 1}, {far + 5, 0, 1, far - 1}, {0, far, far, far},
		{far, far + 3, far + 9, 0}, {far - 1, far + 9, far + 3, 1}, {far + 9, far, far, 0},
		{math.MaxInt, 0, 0, far}, {math.MinInt, math.MaxInt, math.MaxInt, far},
		{math.MaxInt, math.MinInt, math.MinInt, far}, {math.MinInt, math.MaxInt, math.MinInt, 0},
	} {
		if got := Ring(c.q, c.low, c.high); got != c.want {
			t.Errorf("Ring(%d, %d, %d) = %d, want %d", c.q, c.low, c.high, got, c.want)
		}
	}
}

// A ring is no nearer than the nearest of all that is in it.
func TestP12RingOfEach(t *testing.T) {
	for q := range 10 {
		for low := range 10 {
			for high := low; high < 10; high++ {
				want := gap(q, low)
				for b := low; b <= high; b++ {
					want = min(want, gap(q, b))
				}
				if Ring(q, low, high) != want || Ring(q, high, low) != want {
					t.Errorf("Ring of %d and from %d to %d: %d, turned round %d, want %d", q, low, high, Ring(q, low, high), Ring(q, high, low), want)
				}
			}
		}
	}
}

func TestP12Ball(t *testing.T) {
	for _, c := range []struct{ q, radius, want int }{
		{5, 2, 3}, {9, 4, 5}, {3, 4, 0}, {4, 4, 0}, {5, 4, 1}, {0, 0, 0}, {6, 0, 6},
		{6, -1, 6}, {6, -7, 6}, {6, math.MinInt, 6}, {-3, 0, 0}, {-3, -3, 0}, {-3, 5, 0},
		{far, 0, far}, {far, far, 0}, {far, 1, far - 1}, {far + 7, 1, far - 1}, {far + 7, far, 0}, {far - 1, far + 7, 0},
		{math.MaxInt, math.MinInt, far}, {math.MinInt, math.MaxInt, 0}, {math.MaxInt, math.MaxInt, 0},
	} {
		if got := Ball(c.q, c.radius); got != c.want {
			t.Errorf("Ball(%d, %d) = %d, want %d", c.q, c.radius, got, c.want)
		}
	}
	for _, q := range edges() {
		for _, radius := range edges() {
			if Ball(q, radius) != Ring(q, 0, radius) {
				t.Errorf("Ball(%d, %d) = %d, Ring %d", q, radius, Ball(q, radius), Ring(q, 0, radius))
			}
		}
	}
}

func TestP12Cut(t *testing.T) {
	for _, c := range []struct {
		low, r int
		want   bool
	}{
		{6, 5, true}, {5, 5, false}, {4, 5, false}, {0, 0, false}, {1, 0, true},
		{0, -1, true}, {5, -1, true}, {-1, -1, true}, {-5, -3, true}, {-3, -5, true}, {0, math.MinInt, true}, {math.MinInt, math.MinInt, true},
		{-5, 0, false}, {math.MinInt, 0, false},
		{far, far - 1, true}, {far, far, false}, {far + 1, far, false}, {far + 9, far - 1, true}, {far + 1, far + 1, false},
		{math.MaxInt, far, false}, {math.MaxInt, math.MaxInt, false}, {math.MaxInt, far - 1, true}, {far, math.MaxInt, false},
	} {
		if got := Cut(c.low, c.r); got != c.want {
			t.Errorf("Cut(%d, %d) = %t, want %t", c.low, c.r, got, c.want)
		}
	}
}

func TestP13Widen(t *testing.T) {
	for _, c := range []struct{ low, high, d, wantLow, wantHigh int }{
		{3, 5, 1, 1, 5}, {3, 5, 9, 3, 9}, {3, 5, 4, 3, 5}, {3, 5, 3, 3, 5}, {3, 5, 5, 3, 5},
		{4, 4, 4, 4, 4}, {4, 4, 2, 2, 4}, {4, 4, 6, 4, 6}, {0, 0, 7, 0, 7},
		{1, 0, 7, 7, 7}, {1, 0, 0, 0, 0}, {9, 2, 5, 5, 5}, {far, 0, far, far, far},
		{3, 5, -4, 0, 5}, {3, 5, far + 4, 3, far}, {1, 0, -4, 0, 0}, {1, 0, far + 4, far, far},
		{-3, 5, 7, 0, 7}, {-3, -9, 7, 0, 7}, {-9, -3, 7, 0, 7}, {0, -1, 7, 0, 7}, {1, -1, 7, 7, 7},
		{3, far + 5, 9, 3, far}, {far + 5, far + 1, 9, 9, far}, {far + 1, far, 9, 9, far}, {far + 1, far - 1, 9, 9, 9},
		{math.MinInt, math.MaxInt, 9, 0, far}, {math.MaxInt, math.MinInt, 9, 9, 9},
		{math.MaxInt, math.MinInt, math.MaxInt, far, far}, {math.MaxInt, math.MinInt, math.MinInt, 0, 0},
	} {
		if low, high := Widen(c.low, c.high, c.d); low != c.wantLow || high != c.wantHigh {
			t.Errorf("Widen(%d, %d, %d) = %d, %d, want %d, %d", c.low, c.high, c.d, low, high, c.wantLow, c.wantHigh)
		}
	}
}

// One distance behind the other, from none on, the ends are the least and the greatest one.
func TestP13WidenFromNone(t *testing.T) {
	l := []int{5, 7, 7, 3, 4, 12, 0, far, 9}
	low, high := 1, 0
	least, greatest := l[0], l[0]
	for _, d := range l {
		low, high = Widen(low, high, d)
		least, greatest = min(least, d), max(greatest, d)
		if low != least || high != greatest {
			t.Errorf("behind %d: %d to %d, want %d to %d", d, low, high, least, greatest)
		}
	}
}

func TestP14ApartIsAtMostSum(t *testing.T) {
	for _, a := range edges() {
		for _, b := range edges() {
			near, wide := Apart(a, b), Sum(a, b)
			if near > wide || near < 0 || near > far || wide > 2*far {
				t.Errorf("%d and %d: from %d to %d", a, b, near, wide)
			}
			if near != Apart(b, a) || wide != Sum(b, a) {
				t.Errorf("%d and %d: turned round %d to %d", a, b, Apart(b, a), Sum(b, a))
			}
		}
	}
}

func TestP14WiderRingIsNoMore(t *testing.T) {
	for _, q := range edges() {
		for _, low := range edges() {
			for _, high := range edges() {
				for _, d := range edges() {
					checkWider(t, q, min(low, high), max(low, high), d)
				}
			}
		}
	}
}

// checkWider holds a ring against the one whose ends have d between, too.
func checkWider(t *testing.T, q, low, high, d int) {
	t.Helper()
	ring := Ring(q, low, high)
	if ring < 0 || ring > far {
		t.Errorf("Ring(%d, %d, %d) = %d", q, low, high, ring)
	}
	if wider := Ring(q, min(low, d), max(high, d)); wider > ring {
		t.Errorf("Ring(%d, %d, %d) = %d, with %d, too: %d", q, low, high, ring, d, wider)
	}
	wideLow, wideHigh := Widen(low, high, d)
	if wider := Ring(q, wideLow, wideHigh); wider > ring || wider > Apart(q, d) {
		t.Errorf("Ring(%d, %d, %d) = %d, widened by %d: %d", q, low, high, ring, d, wider)
	}
}

func TestP14GreaterBallIsNoMore(t *testing.T) {
	for _, q := range edges() {
		last := far
		for _, radius := range edges() {
			ball := Ball(q, radius)
			if ball > last || ball < 0 {
				t.Errorf("Ball(%d, %d) = %d, of a lesser radius %d", q, radius, ball, last)
			}
			last = ball
		}
	}
}

// All calls count numbers that are no distances as the ends of all distances.
func TestNumbersAreBroughtIn(t *testing.T) {
	for _, a := range edges() {
		for _, b := range edges() {
			if Apart(a, b) != Apart(counted(a), counted(b)) || Sum(a, b) != Sum(counted(a), counted(b)) {
				t.Errorf("two: %d, %d", a, b)
			}
			if Ball(a, b) != Ball(counted(a), counted(b)) || Cut(a, b) != (counted(a) > b) {
				t.Errorf("ball: %d, %d", a, b)
			}
			for _, c := range edges() {
				low, high := Widen(a, b, c)
				wantLow, wantHigh := Widen(counted(a), counted(b), counted(c))
				if low != wantLow || high != wantHigh || Ring(a, b, c) != Ring(counted(a), counted(b), counted(c)) {
					t.Errorf("three: %d, %d, %d", a, b, c)
				}
			}
		}
	}
}
