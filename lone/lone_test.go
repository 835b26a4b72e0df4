package lone

import (
	"math"
	"math/big"
	"slices"
	"testing"

	"waywiser/api"
)

const (
	least    = math.MinInt32
	greatest = math.MaxInt32
	widest   = math.MaxUint32
)

// vectors are none, short ones, some that go on with noughts, and some of the ends of all numbers.
func vectors() [][]int32 {
	return [][]int32{
		nil, {}, {0}, {0, 0}, {0, 0, 0},
		{1}, {1, 0}, {1, 0, 0}, {0, 1}, {0, 1, 0}, {0, 0, 1},
		{-1}, {-1, 0}, {-1, 1}, {1, -1}, {2}, {1, 1}, {1, 2}, {2, 1}, {4, -2}, {-3, 4}, {3, -4}, {3, -4, 5, -6},
		{1, 0, 0, 0, 1}, {0, 5, 0, -5},
		{least}, {greatest}, {least + 1}, {greatest - 1}, {-greatest},
		{least, greatest}, {greatest, least}, {least, least}, {greatest, greatest}, {least, 0}, {0, least}, {greatest, 0}, {0, greatest},
		{least, least, least}, {greatest, greatest, greatest}, {greatest, -greatest, least, 7},
	}
}

// filled is a vector of n times the same number.
func filled(n int, x int32) []int32 {
	return slices.Repeat([]int32{x}, n)
}

// apart tells by the document's words, with numbers of any size, how far two vectors are apart.
func apart(a, b []int32) int {
	sum := new(big.Int)
	for i := 0; i < len(a) || i < len(b); i++ {
		d := new(big.Int)
		if i < len(a) {
			d.Add(d, big.NewInt(int64(a[i])))
		}
		if i < len(b) {
			d.Sub(d, big.NewInt(int64(b[i])))
		}
		sum.Add(sum, d.Abs(d))
	}
	return int(sum.Int64())
}

// core is a vector without the noughts at its end.
func core(a []int32) []int32 {
	for len(a) > 0 && a[len(a)-1] == 0 {
		a = a[:len(a)-1]
	}
	return a
}

func TestP61Dist(t *testing.T) {
	for _, c := range []struct {
		a, b []int32
		want int
	}{
		{[]int32{1, 2}, []int32{4, -2}, 7}, {[]int32{5}, []int32{3}, 2}, {[]int32{5}, []int32{-3}, 8}, {[]int32{-5}, []int32{-3}, 2}, {[]int32{-5}, []int32{3}, 8},
		{nil, nil, 0}, {nil, []int32{}, 0}, {[]int32{}, []int32{}, 0}, {[]int32{7, -7}, []int32{7, -7}, 0},
		{nil, []int32{4}, 4}, {nil, []int32{-4, 3}, 7}, {[]int32{}, []int32{1, 2, 3}, 6},
		{[]int32{1}, []int32{1, 5}, 5}, {[]int32{1}, []int32{1, -5}, 5}, {[]int32{1}, []int32{3, -5, 2}, 9}, {[]int32{1, 2}, []int32{2, 1, 0, 0, -9}, 11},
		{[]int32{3, 0}, []int32{3}, 0}, {nil, []int32{0, 0, 0}, 0}, {[]int32{0}, []int32{0, 0, 1}, 1}, {[]int32{0, 1}, []int32{1}, 2},
		{[]int32{1, 2}, []int32{2, 1}, 2}, {[]int32{10, 0}, []int32{0, 10}, 20},
		{[]int32{least}, []int32{greatest}, widest}, {[]int32{least}, []int32{0}, 1 << 31}, {[]int32{least}, nil, 1 << 31}, {nil, []int32{greatest}, greatest}, {[]int32{least}, []int32{1}, 1<<31 + 1}, {[]int32{least}, []int32{least}, 0},
		{[]int32{greatest}, []int32{-1}, 1 << 31}, {[]int32{greatest}, []int32{greatest - 1}, 1}, {[]int32{greatest, greatest, greatest}, nil, 3 * greatest},
		{[]int32{least, greatest}, []int32{greatest, least}, 2 * widest}, {[]int32{least, least, least}, []int32{greatest, greatest, greatest}, 3 * widest},
	} {
		if got, back := Dist(c.a, c.b), Dist(c.b, c.a); got != c.want || back != c.want {
			t.Errorf("%v and %v: %d, the other way %d, want %d", c.a, c.b, got, back, c.want)
		}
	}
}

func TestP61DistOfEach(t *testing.T) {
	for _, a := range vectors() {
		for _, b := range vectors() {
			if got, want := Dist(a, b), apart(a, b); got != want {
				t.Errorf("%v and %v: %d, want %d", a, b, got, want)
			}
		}
	}
}

// As many numbers as a thing has at most, and more of them, which are no thing any more.
func TestP61DistOfManyNumbers(t *testing.T) {
	for _, n := range []int{100, api.MaxSize - 1, api.MaxSize, api.MaxSize + 1, 1 << 20} {
		low, high := filled(n, least), filled(n, greatest)
		last := filled(n, 3)
		last[n-1] = 4
		for _, c := range []struct {
			what string
			a, b []int32
			want int
		}{
			{"ends", low, high, n * widest}, {"ends from nothing", low, nil, n << 31}, {"ends from one", high, []int32{least}, n*greatest + 1<<31},
			{"the last one", last, filled(n, 3), 1}, {"one less", last, filled(n-1, 3), 4}, {"noughts", filled(n, 0), nil, 0},
		} {
			if got, back := Dist(c.a, c.b), Dist(c.b, c.a); got != c.want || back != c.want {
				t.Errorf("%s of %d: %d, the other way %d, want %d", c.what, n, got, back, c.want)
			}
			checkUpto(t, c.a, c.b, c.want)
		}
	}
}

// checkUpto asks for what is d apart with less, as much and more to be had.
func checkUpto(t *testing.T, a, b []int32, d int) {
	t.Helper()
	for _, most := range []int{math.MinInt, math.MinInt + 1, -d - 1, -d, -2, -1, 0, 1, 2, d / 2, d - 2, d - 1, d, d + 1, d + 2, 2 * d, math.MaxInt32, math.MaxUint32, api.MaxDist, math.MaxInt - 1, math.MaxInt} {
		want := 0
		if d <= most {
			want = d
		}
		if got, ok := Upto(a, b, most); got != want || ok != (d <= most) {
			t.Errorf("of %d up to %d: %d, %t", d, most, got, ok)
		}
	}
}

func TestP61Upto(t *testing.T) {
	for _, c := range []struct {
		a, b []int32
		most int
		want int
		ok   bool
	}{
		{[]int32{1, 2}, []int32{4, -2}, 7, 7, true}, {[]int32{1, 2}, []int32{4, -2}, 8, 7, true}, {[]int32{1, 2}, []int32{4, -2}, 6, 0, false}, {[]int32{1, 2}, []int32{4, -2}, 3, 0, false}, {[]int32{1, 2}, []int32{4, -2}, 2, 0, false},
		{[]int32{1, 2}, []int32{4, -2}, 0, 0, false}, {[]int32{1, 2}, []int32{4, -2}, -7, 0, false}, {[]int32{1, 2}, []int32{4, -2}, math.MinInt, 0, false}, {[]int32{1, 2}, []int32{4, -2}, math.MaxInt, 7, true},
		{nil, nil, 0, 0, true}, {nil, nil, -1, 0, false}, {nil, nil, math.MinInt, 0, false}, {nil, nil, math.MaxInt, 0, true}, {[]int32{}, nil, 0, 0, true}, {[]int32{}, nil, -1, 0, false},
		{[]int32{5}, []int32{5}, 0, 0, true}, {[]int32{5}, []int32{5}, -1, 0, false}, {[]int32{5, 0}, []int32{5}, 0, 0, true}, {[]int32{5}, []int32{5, 1}, 0, 0, false}, {[]int32{5}, []int32{5, 1}, 1, 1, true},
		{[]int32{least}, []int32{greatest}, widest, widest, true}, {[]int32{least}, []int32{greatest}, widest - 1, 0, false}, {[]int32{least}, []int32{greatest}, greatest, 0, false},
		{[]int32{greatest, 0, 0}, nil, greatest, greatest, true}, {[]int32{greatest, 0, -1}, nil, greatest, 0, false}, {[]int32{greatest, 0, -1}, nil, greatest + 1, greatest + 1, true},
	} {
		if got, ok := Upto(c.a, c.b, c.most); got != c.want || ok != c.ok {
			t.Errorf("%v and %v up to %d: %d, %t", c.a, c.b, c.most, got, ok)
		}
		if got, ok := Upto(c.b, c.a, c.most); got != c.want || ok != c.ok {
			t.Errorf("%v and %v up to %d: %d, %t", c.b, c.a, c.most, got, ok)
		}
	}
}

func TestP61UptoOfEach(t *testing.T) {
	for _, a := range vectors() {
		for _, b := range vectors() {
			checkUpto(t, a, b, apart(a, b))
		}
	}
}

// Gaps are handed on in order, and no more of them than are asked for.
func TestP61GapsAreLeftEarly(t *testing.T) {
	a, b := []int32{1, 2, 3, 4}, []int32{4, -2, 3, 4, least}
	all := []int{3, 4, 0, 0, 1 << 31}
	for n := range len(all) + 1 {
		var got []int
		gaps(a, b)(func(d int) bool {
			got = append(got, d)
			return len(got) < n
		})
		if want := all[:max(n, 1)]; !slices.Equal(got, want) {
			t.Errorf("%d of them: %v, want %v", n, got, want)
		}
	}
	for range gaps(nil, []int32{}) {
		t.Error("a gap of nothing")
	}
}

func TestP62Norm(t *testing.T) {
	for _, c := range []struct {
		a    []int32
		want int
	}{
		{nil, 0}, {[]int32{}, 0}, {[]int32{0}, 0}, {[]int32{0, 0, 0}, 0}, {[]int32{5}, 5}, {[]int32{-5}, 5}, {[]int32{-3, 4}, 7}, {[]int32{3, -4, 0, 1}, 8}, {[]int32{1, -1}, 2},
		{[]int32{least}, 1 << 31}, {[]int32{greatest}, greatest}, {[]int32{least, greatest}, widest}, {[]int32{least, least}, 1 << 32}, {filled(api.MaxSize, least), 1 << 47}, {filled(api.MaxSize, greatest), greatest << 16},
	} {
		if got := Norm(c.a); got != c.want {
			t.Errorf("of %d numbers: %d, want %d", len(c.a), got, c.want)
		}
	}
	for _, a := range vectors() {
		if got := Norm(a); got != Dist(a, nil) || got != Dist(nil, a) || got != apart(a, nil) {
			t.Errorf("of %v: %d, want %d", a, got, apart(a, nil))
		}
	}
}

func TestP62Least(t *testing.T) {
	for _, c := range []struct {
		a, b []int32
		want int
	}{
		{nil, nil, 0}, {nil, []int32{}, 0}, {[]int32{-3, 4}, []int32{1}, 6}, {[]int32{-3, 4}, nil, 7}, {[]int32{-3, 4}, []int32{8}, 1}, {[]int32{1, 2}, []int32{4, -2}, 3},
		{[]int32{5}, []int32{-5}, 0}, {[]int32{3, 4}, []int32{-7}, 0}, {[]int32{0, 0, 9}, []int32{9}, 0}, {[]int32{2, 0}, []int32{2}, 0},
		{[]int32{least}, []int32{greatest}, 1}, {[]int32{least}, nil, 1 << 31}, {[]int32{least, least, least}, []int32{1}, 3<<31 - 1}, {[]int32{least}, []int32{least, least, least}, 1 << 32},
		{filled(api.MaxSize, least), []int32{least}, 1<<47 - 1<<31}, {filled(api.MaxSize, least), filled(api.MaxSize, greatest), api.MaxSize},
	} {
		if got, back := Least(c.a, c.b), Least(c.b, c.a); got != c.want || back != c.want {
			t.Errorf("of %d and %d numbers: %d, the other way %d, want %d", len(c.a), len(c.b), got, back, c.want)
		}
	}
}

func TestP62DistIsNoLess(t *testing.T) {
	for _, a := range vectors() {
		for _, b := range vectors() {
			x, y := apart(a, nil), apart(b, nil)
			want := x - y
			if want < 0 {
				want = y - x
			}
			if got := Least(a, b); got != want || got > Dist(a, b) {
				t.Errorf("%v and %v: %d, want %d, Dist %d", a, b, got, want, Dist(a, b))
			}
		}
	}
}

func TestP63NoneJustOfTheSame(t *testing.T) {
	for _, a := range vectors() {
		for _, b := range vectors() {
			same := slices.Equal(core(a), core(b))
			if got := Dist(a, b); (got == 0) != same || got < 0 {
				t.Errorf("%v and %v: %d", a, b, got)
			}
			if got, ok := Upto(a, b, 0); got != 0 || ok != same {
				t.Errorf("%v and %v up to 0: %d, %t", a, b, got, ok)
			}
		}
		for n := range 3 {
			if more := append(slices.Clone(a), make([]int32, n)...); Dist(a, more) != 0 || Dist(more, a) != 0 {
				t.Errorf("%v and %d noughts more: %d", a, n, Dist(a, more))
			}
		}
	}
}

func TestP63TheSameBothWays(t *testing.T) {
	for _, a := range vectors() {
		for _, b := range vectors() {
			if Dist(a, b) != Dist(b, a) || Least(a, b) != Least(b, a) {
				t.Errorf("%v and %v: %d, %d, the other way %d, %d", a, b, Dist(a, b), Least(a, b), Dist(b, a), Least(b, a))
			}
		}
	}
}

func TestP63NoLessByAThird(t *testing.T) {
	for _, a := range vectors() {
		for _, b := range vectors() {
			for _, c := range vectors() {
				if Dist(a, c)+Dist(c, b) < Dist(a, b) {
					t.Errorf("%v and %v: %d, by %v %d and %d", a, b, Dist(a, b), c, Dist(a, c), Dist(c, b))
				}
			}
		}
	}
}

// No call changes what it is handed, or the room behind it.
func TestVectorsStayAsTheyAre(t *testing.T) {
	whole, other := []int32{1, -2, 3, least}, []int32{greatest, 5, -6, 7}
	for n := range 5 {
		for m := range 5 {
			a, b := whole[:n], other[:m]
			Dist(a, b)
			Upto(a, b, 2)
			Upto(a, b, math.MaxInt)
			Norm(a)
			Least(a, b)
			if !slices.Equal(whole, []int32{1, -2, 3, least}) || !slices.Equal(other, []int32{greatest, 5, -6, 7}) {
				t.Fatal(n, m, whole, other)
			}
		}
	}
}
