package metric

import (
	"math"
	"slices"
	"strings"
	"testing"

	"waywiser/api"
	"waywiser/ham"
	"waywiser/lev"
	"waywiser/lone"
	"waywiser/object"
)

const (
	least    = math.MinInt32
	greatest = math.MaxInt32
)

func vec(l ...int32) api.Object {
	return api.Object{Tag: api.TagVec, Vec: l}
}

func str(s string) api.Object {
	return api.Object{Tag: api.TagStr, Str: s}
}

// long is a vector of n times the same number.
func long(n int, x int32) api.Object {
	return vec(slices.Repeat([]int32{x}, n)...)
}

// known are all metrics that there are.
func known() []int {
	return []int{api.L1, api.Ham, api.Lev}
}

// others are numbers that are no metric's.
func others() []int {
	return []int{math.MinInt, -3, -1, 0, 4, 5, 7, 1 << 32, 1<<32 + 1, math.MaxInt}
}

// objects are things, and what is none: of each tag some with numbers, with bytes, with both and with nothing.
func objects() []api.Object {
	vecs := [][]int32{nil, {}, {0}, {0, 0}, {1}, {-1}, {1, 5}, {4, 4}, {5, 1}, {3, -4, 0}, {least}, {greatest, least}}
	strs := []string{"", "a", "b", "ab", "ba", "ac", "abc", "cba", "bcd", "abcabc", "\x00", "\xff\x00", "é", "kitten", "sitting"}
	var l []api.Object
	for _, tag := range []int{api.TagVec, api.TagStr, 0, 3, -1, math.MaxInt} {
		for i, v := range vecs {
			l = append(l, api.Object{Tag: tag, Vec: v}, api.Object{Tag: tag, Vec: v, Str: strs[i]})
		}
		for i, s := range strs {
			l = append(l, api.Object{Tag: tag, Str: s}, api.Object{Tag: tag, Vec: vecs[(i+5)%len(vecs)], Str: s})
		}
	}
	return l
}

// gap answers how far two numbers are apart.
func gap(x, y int) int {
	if x < y {
		return y - x
	}
	return x - y
}

// sum tells by the words of layer 6 how far vectors are apart.
func sum(a, b []int32) int {
	d := 0
	for i := 0; i < len(a) || i < len(b); i++ {
		var x, y int
		if i < len(a) {
			x = int(a[i])
		}
		if i < len(b) {
			y = int(b[i])
		}
		d += gap(x, y)
	}
	return d
}

// places tells by the words of layer 7 how far bytes are apart.
func places(a, b string) int {
	d := gap(len(a), len(b))
	for i := 0; i < len(a) && i < len(b); i++ {
		if a[i] != b[i] {
			d++
		}
	}
	return d
}

// edits tells by the words of layer 8 how far texts are apart: row by row of the table of all their beginnings.
func edits(a, b string) int {
	row := make([]int, len(b)+1)
	for j := range row {
		row[j] = j
	}
	for i := 1; i <= len(a); i++ {
		corner := row[0]
		row[0] = i
		for j := 1; j <= len(b); j++ {
			both := corner
			if a[i-1] != b[j-1] {
				both++
			}
			corner = row[j]
			row[j] = min(both, row[j]+1, row[j-1]+1)
		}
	}
	return row[len(b)]
}

// fewest tells by the words of layer 8 how many edits there are at least.
func fewest(a, b string) int {
	lacks, more := 0, 0
	for c := range 256 {
		x, y := strings.Count(a, string([]byte{byte(c)})), strings.Count(b, string([]byte{byte(c)}))
		lacks += max(x-y, 0)
		more += max(y-x, 0)
	}
	return max(gap(len(a), len(b)), lacks, more)
}

// apart tells by the document's words how far two things are apart, and how far at least.
func apart(metric int, x, y api.Object) (int, int) {
	switch metric {
	case 1:
		return sum(x.Vec, y.Vec), gap(sum(x.Vec, nil), sum(y.Vec, nil))
	case 2:
		return places(x.Str, y.Str), gap(len(x.Str), len(y.Str))
	case 3:
		return edits(x.Str, y.Str), fewest(x.Str, y.Str)
	}
	return 0, 0
}

// around are numbers below, at and above a distance, and the ends of all.
func around(d int) []int {
	return []int{math.MinInt, math.MinInt + 1, -d - 1, -d, -2, -1, 0, 1, 2, d / 2, d - 2, d - 1, d, d + 1, d + 2, 2 * d, math.MaxInt32, math.MaxUint32, api.MaxDist, math.MaxInt - 1, math.MaxInt}
}

// checkUpto asks for what is d apart with less, as much and more to be had: by itself, and by a meter.
func checkUpto(t *testing.T, metric int, x, y api.Object, d int) {
	t.Helper()
	m := New(metric)
	for i, most := range around(d) {
		want := 0
		if d <= most {
			want = d
		}
		if got, ok := Upto(metric, x, y, most); got != want || ok != (d <= most) {
			t.Errorf("of %d up to %d: %d, %t, want %d, %t", metric, most, got, ok, want, d <= most)
		}
		if got, ok := m.Upto(x, y, most); got != want || ok != (d <= most) || m.Calls() != i+1 {
			t.Errorf("a meter of %d up to %d: %d, %t, want %d, %t, asked %d times", metric, most, got, ok, want, d <= most, m.Calls())
		}
	}
}

// examples are two things each, how far they are apart by a metric, and how far at least.
func examples() []example {
	return []example{
		{api.L1, vec(1, 5), vec(4, 4), 4, 2}, {api.L1, vec(1, 2), vec(4, -2), 7, 3}, {api.L1, vec(5), vec(-5), 10, 0}, {api.L1, vec(3, -4), vec(3, -4), 0, 0}, {api.L1, vec(), vec(), 0, 0},
		{api.L1, vec(), vec(4, -3), 7, 7}, {api.L1, vec(1), vec(1, -5), 5, 5}, {api.L1, vec(2, 0), vec(2), 0, 0}, {api.L1, vec(1, 2), vec(2, 1), 2, 0}, {api.L1, vec(least), vec(greatest), math.MaxUint32, 1},
		{api.Ham, str("ab"), str("ac"), 1, 0}, {api.Ham, str("abc"), str("axcd"), 2, 1}, {api.Ham, str("abc"), str("cba"), 2, 0}, {api.Ham, str("abc"), str("bcd"), 3, 0}, {api.Ham, str("abc"), str("abc"), 0, 0}, {api.Ham, str(""), str(""), 0, 0},
		{api.Ham, str(""), str("abc"), 3, 3}, {api.Ham, str("b"), str("abc"), 3, 2}, {api.Ham, str("aab"), str("abbb"), 2, 1}, {api.Ham, str("aaaa"), str("bbbb"), 4, 0}, {api.Ham, str("kitten"), str("sitting"), 3, 1}, {api.Ham, str("é"), str("e"), 2, 1}, {api.Ham, str("\x00"), str("\xff"), 1, 0},
		{api.Lev, str("kitten"), str("sitting"), 3, 3}, {api.Lev, str("abc"), str("bcd"), 2, 1}, {api.Lev, str("abc"), str("cba"), 2, 0}, {api.Lev, str("ab"), str(""), 2, 2}, {api.Lev, str("b"), str("abc"), 2, 2}, {api.Lev, str("abc"), str("abc"), 0, 0}, {api.Lev, str(""), str(""), 0, 0},
		{api.Lev, str("aab"), str("abbb"), 2, 2}, {api.Lev, str("cat"), str("cut"), 1, 1}, {api.Lev, str("cut"), str("hat"), 2, 2}, {api.Lev, str("abab"), str("baba"), 2, 0}, {api.Lev, str("é"), str("e"), 2, 2}, {api.Lev, str("\x00"), str("\xff"), 1, 1},
	}
}

type example struct {
	metric      int
	x, y        api.Object
	want, least int
}

func TestP91Dist(t *testing.T) {
	for _, c := range examples() {
		if got, back := Dist(c.metric, c.x, c.y), Dist(c.metric, c.y, c.x); got != c.want || back != c.want {
			t.Errorf("%v and %v of %d: %d, the other way %d, want %d", c.x, c.y, c.metric, got, back, c.want)
		}
	}
}

func TestP91Upto(t *testing.T) {
	for _, c := range examples() {
		if got, ok := Upto(c.metric, c.x, c.y, c.want); got != c.want || !ok {
			t.Errorf("%v and %v of %d: %d, %t, want %d", c.x, c.y, c.metric, got, ok, c.want)
		}
		if got, ok := Upto(c.metric, c.x, c.y, c.want-1); got != 0 || ok {
			t.Errorf("%v and %v of %d up to one less: %d, %t", c.x, c.y, c.metric, got, ok)
		}
		checkUpto(t, c.metric, c.x, c.y, c.want)
		checkUpto(t, c.metric, c.y, c.x, c.want)
	}
}

func TestP91Least(t *testing.T) {
	for _, c := range examples() {
		if got, back := Least(c.metric, c.x, c.y), Least(c.metric, c.y, c.x); got != c.least || back != c.least {
			t.Errorf("%v and %v of %d: %d, the other way %d, want %d", c.x, c.y, c.metric, got, back, c.least)
		}
	}
}

// Any two, whatever their tags are, and whatever stands beside what the metric looks at.
func TestP91OfAnyThings(t *testing.T) {
	l := objects()
	for _, metric := range append(known(), others()...) {
		for _, x := range l {
			for _, y := range l {
				want, atLeast := apart(metric, x, y)
				if got := Dist(metric, x, y); got != want {
					t.Fatalf("%v and %v of %d: %d, want %d", x, y, metric, got, want)
				}
				if got := Least(metric, x, y); got != atLeast {
					t.Fatalf("%v and %v of %d at least: %d, want %d", x, y, metric, got, atLeast)
				}
				for _, most := range []int{-1, 0, want - 1, want, want + 1, math.MaxInt} {
					got, ok := Upto(metric, x, y, most)
					if ok != (want <= most) || ok && got != want || !ok && got != 0 {
						t.Fatalf("%v and %v of %d up to %d: %d, %t, want %d", x, y, metric, most, got, ok, want)
					}
				}
			}
		}
	}
}

func TestP91IsWhatTheLayersBelowTell(t *testing.T) {
	for _, x := range objects() {
		for _, y := range objects()[:60] {
			if Dist(api.L1, x, y) != lone.Dist(x.Vec, y.Vec) || Least(api.L1, x, y) != lone.Least(x.Vec, y.Vec) {
				t.Errorf("%v and %v: %d, at least %d", x.Vec, y.Vec, Dist(api.L1, x, y), Least(api.L1, x, y))
			}
			if Dist(api.Ham, x, y) != ham.Dist(x.Str, y.Str) || Least(api.Ham, x, y) != gap(len(x.Str), len(y.Str)) {
				t.Errorf("%q and %q: %d, at least %d", x.Str, y.Str, Dist(api.Ham, x, y), Least(api.Ham, x, y))
			}
			if Dist(api.Lev, x, y) != lev.Dist(x.Str, y.Str) || Least(api.Lev, x, y) != lev.Least(x.Str, y.Str) {
				t.Errorf("%q and %q: %d, at least %d", x.Str, y.Str, Dist(api.Lev, x, y), Least(api.Lev, x, y))
			}
		}
	}
}

// Of another metric all are 0 apart: up to 0 they are near, below it not.
func TestP91OfAnotherMetric(t *testing.T) {
	for _, metric := range others() {
		for _, x := range []api.Object{{}, vec(), vec(7), str(""), str("abc"), {Tag: 9, Vec: []int32{1}, Str: "z"}} {
			y := api.Object{Tag: 2, Vec: []int32{-8, 8}, Str: "xyzw"}
			if d, low := Dist(metric, x, y), Least(metric, x, y); d != 0 || low != 0 {
				t.Errorf("of %d: %d, at least %d", metric, d, low)
			}
			checkUpto(t, metric, x, y, 0)
		}
	}
}

// The greatest things, and greater ones, which are no things any more.
func TestP91OfManyNumbersAndBytes(t *testing.T) {
	for _, n := range []int{100, api.MaxSize - 1, api.MaxSize, api.MaxSize + 1} {
		a, b := strings.Repeat("a", n), strings.Repeat("b", n)
		for _, c := range []example{
			{api.L1, long(n, least), long(n, greatest), n * math.MaxUint32, n}, {api.L1, long(n, least), vec(), n << 31, n << 31}, {api.L1, long(n, 1), long(n, -1), 2 * n, 0},
			{api.Ham, str(a), str(b), n, 0}, {api.Ham, str(a), str(""), n, n}, {api.Ham, str(a + "b"), str("b" + a), 2, 0}, {api.Ham, str(a), str(a[1:]), 1, 1},
			{api.Lev, str(a), str(""), n, n}, {api.Lev, str("x" + a), str("y" + a), 1, 1}, {api.Lev, str(a), str(a[1:]), 1, 1},
		} {
			if got, back := Dist(c.metric, c.x, c.y), Dist(c.metric, c.y, c.x); got != c.want || back != c.want {
				t.Errorf("%d of %d: %d, the other way %d, want %d", n, c.metric, got, back, c.want)
			}
			if got, back := Least(c.metric, c.x, c.y), Least(c.metric, c.y, c.x); got != c.least || back != c.least {
				t.Errorf("%d of %d at least: %d, the other way %d, want %d", n, c.metric, got, back, c.least)
			}
			for _, most := range []int{c.want - 1, c.want, c.want + 1} {
				want := c.want
				if most < c.want {
					want = 0
				}
				if got, ok := Upto(c.metric, c.x, c.y, most); got != want || ok != (c.want <= most) {
					t.Errorf("%d of %d up to %d: %d, %t, want %d", n, c.metric, most, got, ok, want)
				}
			}
		}
	}
}

func TestP92NewWasAskedNothing(t *testing.T) {
	for _, metric := range append(known(), others()...) {
		m := New(metric)
		if m == nil || m.Metric() != metric || m.Calls() != 0 {
			t.Errorf("of %d: %v, %d, asked %d times", metric, m, m.Metric(), m.Calls())
		}
	}
}

func TestP92DistAndUptoAreItsMetrics(t *testing.T) {
	l := objects()
	for _, metric := range append(known(), others()...) {
		m := New(metric)
		for i, x := range l {
			y := l[(i*5+3)%len(l)]
			want, _ := apart(metric, x, y)
			if got := m.Dist(x, y); got != want {
				t.Errorf("%v and %v of %d: %d, want %d", x, y, metric, got, want)
			}
			if got, ok := m.Upto(x, y, want); got != want || !ok {
				t.Errorf("%v and %v of %d: %d, %t, want %d", x, y, metric, got, ok, want)
			}
			if got, ok := m.Upto(x, y, want-1); got != 0 || ok {
				t.Errorf("%v and %v of %d up to one less: %d, %t", x, y, metric, got, ok)
			}
			if m.Calls() != 3*(i+1) || m.Metric() != metric {
				t.Fatalf("of %d: asked %d times, and not %d; metric %d", metric, m.Calls(), 3*(i+1), m.Metric())
			}
		}
	}
}

// Each call is one more: of what was asked already, of what is too far at a look, of a thing and itself, too.
func TestP92EachCallIsOneMore(t *testing.T) {
	for _, metric := range append(known(), others()...) {
		m := New(metric)
		x, y := api.Object{Vec: []int32{1}, Str: "a"}, api.Object{Vec: []int32{5, 7}, Str: "bcd"}
		for i, ask := range []func(){
			func() { m.Dist(x, y) }, func() { m.Dist(x, y) }, func() { m.Dist(y, x) }, func() { m.Dist(x, x) }, func() { m.Dist(api.Object{}, api.Object{}) },
			func() { m.Upto(x, y, 100) }, func() { m.Upto(x, y, 100) }, func() { m.Upto(x, y, 1) }, func() { m.Upto(x, y, 0) }, func() { m.Upto(x, y, -1) }, func() { m.Upto(x, y, math.MinInt) }, func() { m.Upto(x, x, math.MaxInt) },
		} {
			ask()
			if m.Calls() != i+1 || m.Calls() != i+1 {
				t.Errorf("of %d behind call %d: %d", metric, i+1, m.Calls())
			}
		}
	}
}

func TestP92NothingElseCounts(t *testing.T) {
	m := New(api.Lev)
	m.Dist(str("a"), str("b"))
	m.Upto(str("a"), str("b"), 0)
	Least(api.Lev, str("a"), str("b"))
	Dist(api.Lev, str("a"), str("b"))
	Upto(api.Lev, str("a"), str("b"), 1)
	m.Metric()
	if m.Calls() != 2 || m.Metric() != api.Lev {
		t.Errorf("asked %d times, metric %d", m.Calls(), m.Metric())
	}
}

func TestP92MetersAreApart(t *testing.T) {
	a, b, c := New(api.Ham), New(api.Ham), New(api.Lev)
	x, y := str("abc"), str("bcd")
	if a.Dist(x, y) != 3 || c.Dist(x, y) != 2 || a.Dist(x, y) != 3 {
		t.Error("a meter asks another one's metric")
	}
	if a.Calls() != 2 || b.Calls() != 0 || c.Calls() != 1 || a.Metric() != api.Ham || b.Metric() != api.Ham || c.Metric() != api.Lev {
		t.Error(a.Calls(), b.Calls(), c.Calls(), a.Metric(), b.Metric(), c.Metric())
	}
}

func TestP93NilMeter(t *testing.T) {
	var m *Meter
	for _, x := range []api.Object{{}, vec(7), str("abc")} {
		for _, y := range []api.Object{{}, vec(9, 9), str("bcd")} {
			if got := m.Dist(x, y); got != 0 {
				t.Error(got)
			}
			for _, most := range around(3) {
				if got, ok := m.Upto(x, y, most); got != 0 || ok {
					t.Errorf("up to %d: %d, %t", most, got, ok)
				}
			}
		}
	}
	if m.Metric() != 0 || m.Calls() != 0 {
		t.Error(m.Metric(), m.Calls())
	}
}

// rights are the right things of a metric and a size, of a few numbers and bytes; with their ends.
func rights(metric, size int) []api.Object {
	rows := [][]int32{nil}
	for range size {
		var longer [][]int32
		for _, r := range rows {
			for _, n := range []int32{least, -3, 0, 1, greatest} {
				longer = append(longer, append(slices.Clone(r), n))
			}
		}
		rows = longer
	}
	texts, last := []string{""}, []string{""}
	for range size {
		var longer []string
		for _, s := range last {
			longer = append(longer, s+"a", s+"b", s+"\xff")
		}
		texts, last = append(texts, longer...), longer
	}
	var l []api.Object
	for _, r := range rows {
		l = append(l, vec(r...))
	}
	for _, s := range texts {
		l = append(l, str(s))
	}
	return slices.DeleteFunc(l, func(x api.Object) bool { return !object.Right(x, metric, size) })
}

func TestP94NoneJustOfTheSame(t *testing.T) {
	for _, metric := range known() {
		for size := range 4 {
			l := rights(metric, size)
			if len(l) == 0 {
				t.Fatalf("none of %d and %d", metric, size)
			}
			for _, x := range l {
				for _, y := range l {
					same := object.Same(x, y)
					if d := Dist(metric, x, y); (d == 0) != same || d < 0 {
						t.Errorf("%v and %v of %d: %d", x, y, metric, d)
					}
					if d, ok := Upto(metric, x, y, 0); d != 0 || ok != same {
						t.Errorf("%v and %v of %d up to 0: %d, %t", x, y, metric, d, ok)
					}
				}
				if d := Dist(metric, x, object.Clone(x)); d != 0 {
					t.Errorf("%v and its clone of %d: %d", x, metric, d)
				}
			}
		}
	}
}

func TestP94TheSameBothWays(t *testing.T) {
	for _, metric := range known() {
		for size := range 4 {
			l := rights(metric, size)
			for _, x := range l {
				for _, y := range l {
					if Dist(metric, x, y) != Dist(metric, y, x) || Least(metric, x, y) != Least(metric, y, x) {
						t.Errorf("%v and %v of %d: %d, %d, the other way %d, %d", x, y, metric, Dist(metric, x, y), Least(metric, x, y), Dist(metric, y, x), Least(metric, y, x))
					}
				}
			}
		}
	}
}

func TestP94NoLessByAThird(t *testing.T) {
	for _, metric := range known() {
		for size := range 4 {
			l := rights(metric, size)
			far := make([][]int, len(l))
			for i, x := range l {
				for _, y := range l {
					far[i] = append(far[i], Dist(metric, x, y))
				}
			}
			for i := range l {
				for j := range l {
					for k := range l {
						if far[i][k]+far[k][j] < far[i][j] {
							t.Fatalf("%v and %v of %d: %d, by %v %d and %d", l[i], l[j], metric, far[i][j], l[k], far[i][k], far[k][j])
						}
					}
				}
			}
		}
	}
}

func TestP94LeastIsNoMore(t *testing.T) {
	for _, metric := range known() {
		for size := range 4 {
			l := rights(metric, size)
			for _, x := range l {
				for _, y := range l {
					if low, d := Least(metric, x, y), Dist(metric, x, y); low > d || low < 0 {
						t.Errorf("%v and %v of %d: at least %d, Dist %d", x, y, metric, low, d)
					}
				}
			}
		}
	}
}

func TestP94AtMostMaxDist(t *testing.T) {
	const n = api.MaxSize
	for _, c := range []example{
		{api.L1, long(n, least), long(n, greatest), 1<<48 - 1<<16, n},
		{api.Ham, str(strings.Repeat("a", n)), str(strings.Repeat("b", n)), n, 0},
		{api.Lev, str(strings.Repeat("a", n)), str(strings.Repeat("b", n)), n, n},
	} {
		if !object.Right(c.x, c.metric, n) || !object.Right(c.y, c.metric, n) {
			t.Fatalf("of %d: not right", c.metric)
		}
		d, low := Dist(c.metric, c.x, c.y), Least(c.metric, c.x, c.y)
		if d != c.want || d > api.MaxDist || low != c.least {
			t.Errorf("of %d: %d, at least %d, want %d and %d", c.metric, d, low, c.want, c.least)
		}
		if got, ok := Upto(c.metric, c.x, c.y, api.MaxDist); got != d || !ok {
			t.Errorf("of %d up to the greatest distance: %d, %t", c.metric, got, ok)
		}
	}
}

// No call changes what it is handed, or the room behind it.
func TestThingsStayAsTheyAre(t *testing.T) {
	whole, other := []int32{1, -2, 3, least}, []int32{greatest, 5, -6, 7}
	for _, metric := range append(known(), others()...) {
		m := New(metric)
		for n := range 5 {
			x, y := api.Object{Tag: n, Vec: whole[:n], Str: "abc"}, api.Object{Tag: api.TagVec, Vec: other[:4-n], Str: "b"}
			Dist(metric, x, y)
			Least(metric, x, y)
			Upto(metric, x, y, 2)
			m.Dist(x, y)
			m.Upto(x, y, math.MaxInt)
			if x.Tag != n || x.Str != "abc" || y.Tag != api.TagVec || y.Str != "b" || !slices.Equal(whole, []int32{1, -2, 3, least}) || !slices.Equal(other, []int32{greatest, 5, -6, 7}) {
				t.Fatal(metric, n, x, y, whole, other)
			}
		}
	}
}

// A meter tells of what it is handed then: it keeps nothing of a call but that it was.
func TestMeterKeepsNothing(t *testing.T) {
	m, l := New(api.L1), []int32{1, 2}
	x, y := vec(l...), vec(4, 6)
	if m.Dist(x, y) != 7 {
		t.Error(m.Dist(x, y))
	}
	x.Vec[0], y = 9, vec(9, 2)
	if d := m.Dist(x, y); d != 0 {
		t.Error(d)
	}
}
