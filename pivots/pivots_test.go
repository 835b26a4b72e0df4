package pivots

import (
	"math"
	"reflect"
	"slices"
	"strings"
	"testing"

	"waywiser/api"
	"waywiser/metric"
)

func vec(l ...int32) api.Object {
	return api.Object{Tag: api.TagVec, Vec: l}
}

func str(s string) api.Object {
	return api.Object{Tag: api.TagStr, Str: s}
}

// line are things that stand on a line, each at its number.
func line(numbers ...int32) []api.Object {
	var l []api.Object
	for _, n := range numbers {
		l = append(l, vec(n))
	}
	return l
}

// texts are things of texts.
func texts(of ...string) []api.Object {
	var l []api.Object
	for _, s := range of {
		l = append(l, str(s))
	}
	return l
}

// metrics are all that there are, and numbers that are none's.
func metrics() []int {
	return []int{api.L1, api.Ham, api.Lev, 0, 4, -1, math.MinInt, math.MaxInt}
}

// counts are how many may be chosen, around how many there are, and at the ends of all numbers.
func counts(n int) []int {
	return []int{
		math.MinInt, math.MinInt + 1, -1 << 32, -n, -2, -1, 0, 1, 2, 3, n - 1, n, n + 1, 2 * n,
		api.MaxPivots, api.MaxObjects, 1 << 32, math.MaxInt - 1, math.MaxInt,
	}
}

// begins are all places of n things, those around them, and the ends of all numbers.
func begins(n int) []int {
	l := []int{math.MinInt, math.MinInt + 1, -1 << 32, -n - 1, -n, -2, -1}
	for at := range n + 3 {
		l = append(l, at)
	}
	return append(l, 2*n, 1<<32, math.MaxInt-1, math.MaxInt)
}

// few are things of which some are the same, or as far from each other as others are, and some have the other tag, both or none.
func few() []api.Object {
	return []api.Object{
		vec(0, 1), vec(2, 0), str("ab"), str("b"), vec(2),
		{Tag: 3, Vec: []int32{1}, Str: "abc"}, {},
	}
}

// lists are all lists of up to n of the few.
func lists(n int) [][]api.Object {
	all := [][]api.Object{nil}
	for i := 0; i < len(all) && len(all[i]) < n; i++ {
		for _, obj := range few() {
			all = append(all, append(slices.Clone(all[i]), obj))
		}
	}
	return all
}

// drawer hands out numbers below others, the same ones for each seed.
func drawer(seed uint64) func(below int) int {
	return func(below int) int {
		seed = seed*6364136223846793005 + 1442695040888963407
		return int(seed >> 33 % uint64(below))
	}
}

// mixed are n things with numbers and bytes in no order, the same ones for each seed.
func mixed(seed uint64, n int) []api.Object {
	next := drawer(seed)
	var l []api.Object
	for range n {
		obj := api.Object{Tag: next(3)}
		for range next(4) {
			obj.Vec = append(obj.Vec, int32(next(9))-4)
			obj.Str += string("abc"[next(3)])
		}
		l = append(l, obj)
	}
	return l
}

// shaken are n places, of which some come twice, and some aren't of n things, the same ones for each seed.
func shaken(seed uint64, n int) []int {
	next := drawer(seed)
	var l []int
	for range next(9) {
		l = append(l, next(n+4)-2)
	}
	return l
}

// meter is a meter that was asked so often.
func meter(kind, asked int) *metric.Meter {
	m := metric.New(kind)
	for range asked {
		m.Dist(api.Object{}, api.Object{})
	}
	return m
}

// from is how far a thing is from the nearest one at those places: each one asked for anew.
func from(kind int, l []api.Object, x api.Object, places []int) int {
	d := metric.Dist(kind, l[places[0]], x)
	for _, at := range places[1:] {
		d = min(d, metric.Dist(kind, l[at], x))
	}
	return d
}

// choose is the promise in its own words.
func choose(kind int, l []api.Object, p, first int) []int {
	if len(l) == 0 || p < 1 {
		return nil
	}
	first = max(first, 0)
	first = min(first, len(l)-1)
	chosen := []int{first}
	for len(chosen) < p {
		at, far := -1, -1
		for i, x := range l {
			if d := from(kind, l, x, chosen); d > far {
				at, far = i, d
			}
		}
		if far == 0 {
			break
		}
		chosen = append(chosen, at)
	}
	return chosen
}

// kept are those places that l has.
func kept(l []api.Object, chosen []int) []int {
	return slices.DeleteFunc(slices.Clone(chosen), func(at int) bool { return at < 0 || at > len(l)-1 })
}

// spread is the promise in its own words.
func spread(kind int, l []api.Object, chosen []int) int {
	there := kept(l, chosen)
	most := 0
	for _, x := range l {
		if len(there) > 0 {
			most = max(most, from(kind, l, x, there))
		}
	}
	return most
}

// checkChoose chooses so many from a place on.
func checkChoose(t *testing.T, kind int, l []api.Object, p, first int) {
	t.Helper()
	m := meter(kind, 3)
	got, want := Choose(m, l, p, first), choose(kind, l, p, first)
	if !slices.Equal(got, want) {
		t.Fatalf("Choose of %v, by metric %d, %d from %d on: %v, want %v", l, kind, p, first, got, want)
	}
	if asked := 3 + len(want)*len(l); m.Calls() != asked || m.Metric() != kind {
		t.Fatalf("Choose of %v, by metric %d, %d from %d on, asks till %d, want %d", l, kind, p, first, m.Calls(), asked)
	}
}

// checkSpread asks how far things are from those places.
func checkSpread(t *testing.T, kind int, l []api.Object, chosen []int) {
	t.Helper()
	m := meter(kind, 5)
	if got, want := Spread(m, l, chosen), spread(kind, l, chosen); got != want {
		t.Fatalf("Spread of %v, by metric %d, from %v: %d, want %d", l, kind, chosen, got, want)
	}
	if asked := 5 + len(kept(l, chosen))*len(l); m.Calls() != asked || m.Metric() != kind {
		t.Fatalf("Spread of %v, by metric %d, from %v, asks till %d, want %d", l, kind, chosen, m.Calls(), asked)
	}
}

// The example of the chapter, and what it goes on with.
func TestP191Told(t *testing.T) {
	l := line(0, 9, 4)
	for _, c := range []struct {
		p, first int
		want     []int
	}{
		{3, 0, []int{0, 1, 2}},
		{2, 0, []int{0, 1}},
		{1, 0, []int{0}},
		{4, 0, []int{0, 1, 2}},
		{3, 1, []int{1, 0, 2}},
		{3, 2, []int{2, 1, 0}},
		{2, 2, []int{2, 1}},
		{0, 0, nil},
		{-1, 1, nil},
	} {
		m := metric.New(api.L1)
		if got := Choose(m, l, c.p, c.first); !slices.Equal(got, c.want) || m.Calls() != 3*len(c.want) {
			t.Errorf("%d from %d on: %v, asks %d", c.p, c.first, got, m.Calls())
		}
	}
}

// Bytes are as far as their metric says.
func TestP191Texts(t *testing.T) {
	l := texts("abcd", "bcda", "abxx", "abcd", "a")
	for kind, want := range map[int][]int{
		api.Ham: {0, 1, 4, 2},
		api.Lev: {0, 4, 1, 2},
		api.L1:  {0},
		0:       {0},
		4:       {0},
	} {
		m := metric.New(kind)
		if got := Choose(m, l, 9, 0); !slices.Equal(got, want) || m.Calls() != 5*len(want) {
			t.Errorf("by metric %d: %v, asks %d", kind, got, m.Calls())
		}
	}
}

// All short lists of things, right ones and none, from each place on.
func TestP191AllShort(t *testing.T) {
	for _, kind := range metrics() {
		for _, l := range lists(3) {
			for _, p := range counts(len(l)) {
				for _, first := range begins(len(l)) {
					checkChoose(t, kind, l, p, first)
				}
			}
		}
	}
}

func TestP191Mixed(t *testing.T) {
	for seed := range uint64(20) {
		for _, kind := range metrics() {
			l := mixed(seed, 2*int(seed))
			for p := -1; p < len(l)+2; p++ {
				checkChoose(t, kind, l, p, 5*p-20)
			}
		}
	}
}

// Of no things none is chosen, and none is asked for.
func TestP191OfNothing(t *testing.T) {
	for _, kind := range metrics() {
		for _, l := range [][]api.Object{nil, {}} {
			for _, p := range counts(0) {
				for _, first := range begins(0) {
					checkChoose(t, kind, l, p, first)
				}
			}
		}
	}
}

// The first place is brought to the nearest one that there is.
func TestP191First(t *testing.T) {
	l := line(7, 2, 8, 1)
	for first, at := range map[int]int{
		math.MinInt: 0, -1 << 32: 0, -4: 0, -3: 0, -1: 0,
		0: 0, 1: 1, 2: 2, 3: 3,
		4: 3, 5: 3, 1 << 32: 3, math.MaxInt: 3,
	} {
		if got := Choose(metric.New(api.L1), l, 1, first); !slices.Equal(got, []int{at}) {
			t.Errorf("from %d on: %v", first, got)
		}
	}
}

// Of several that are as far the least place is chosen, on whichever side they are, and whatever they are.
func TestP191AsFar(t *testing.T) {
	for _, c := range []struct {
		numbers []int32
		first   int
		want    []int
	}{
		{[]int32{0, 5, -5, 5}, 0, []int{0, 1, 2}},
		{[]int32{0, -5, 5, -5}, 0, []int{0, 1, 2}},
		{[]int32{5, -5, 5, 0}, 3, []int{3, 0, 1}},
		{[]int32{3, 0, 6, 3, 9, 12}, 1, []int{1, 5, 2, 0, 4}},
		{[]int32{0, 8, 4, 2, 6, 1, 3, 5, 7}, 0, []int{0, 1, 2, 3, 4, 5, 6, 7, 8}},
		{[]int32{7, 5, 3, 1, 6, 2, 4, 8, 0}, 8, []int{8, 7, 6, 4, 5, 0, 1, 2, 3}},
	} {
		l := line(c.numbers...)
		if got := Choose(metric.New(api.L1), l, 99, c.first); !slices.Equal(got, c.want) {
			t.Errorf("of %v, from %d on: %v, want %v", c.numbers, c.first, got, c.want)
		}
	}
}

// What is 0 away from one that was chosen isn't chosen any more, though there are fewer than p.
func TestP191TheSameOnes(t *testing.T) {
	for _, c := range []struct {
		l    []api.Object
		want []int
	}{
		{line(4), []int{0}},
		{line(4, 4, 4), []int{0}},
		{line(4, 4, 3, 3, 4), []int{0, 2}},
		{[]api.Object{vec(), vec(0), vec(0, 0), str("a"), vec(0, 0, 1)}, []int{0, 4}},
		{texts("a", "a"), []int{0}},
	} {
		for _, p := range []int{len(c.want), len(c.want) + 1, len(c.l), math.MaxInt} {
			m := metric.New(api.L1)
			if got := Choose(m, c.l, p, 0); !slices.Equal(got, c.want) || m.Calls() != len(c.want)*len(c.l) {
				t.Errorf("%d of %v: %v, asks %d", p, c.l, got, m.Calls())
			}
		}
	}
}

// The farthest that right things may be, and what is farther than any right thing.
func TestP191TheFarthest(t *testing.T) {
	low := vec(slices.Repeat([]int32{math.MinInt32}, api.MaxSize)...)
	high := vec(slices.Repeat([]int32{math.MaxInt32}, api.MaxSize)...)
	l := []api.Object{low, vec(), high, vec(1), low}
	checkChoose(t, api.L1, l, 9, 0)
	checkSpread(t, api.L1, l, []int{0})
	if s := Spread(metric.New(api.L1), l, []int{2}); s != api.MaxSize*math.MaxUint32 {
		t.Error(s)
	}

	longer := vec(slices.Repeat([]int32{math.MinInt32}, 10*api.MaxSize)...)
	longest := vec(slices.Repeat([]int32{math.MaxInt32}, 10*api.MaxSize)...)
	l = []api.Object{vec(), longer, vec(7), longest}
	for first := range l {
		checkChoose(t, api.L1, l, 9, first)
		checkSpread(t, api.L1, l, []int{first})
	}
	if s := Spread(metric.New(api.L1), l, []int{1}); s != 10*api.MaxSize*math.MaxUint32 || s <= api.MaxDist {
		t.Error(s)
	}

	long := texts(strings.Repeat("a", 300), strings.Repeat("ab", 150), strings.Repeat("b", 300), "")
	for _, kind := range []int{api.Ham, api.Lev} {
		checkChoose(t, kind, long, 4, 1)
		checkSpread(t, kind, long, []int{0, 3})
	}
}

// As many things as may be in an index.
func TestP191OfMany(t *testing.T) {
	l := make([]api.Object, api.MaxObjects)
	for i := range l {
		l[i] = vec(int32(i))
	}
	m := metric.New(api.L1)
	last := len(l) - 1
	got := Choose(m, l, 5, last)
	// Two are in the middle: the lesser one is chosen, so the upper half is longer, and its middle comes next.
	want := []int{last, 0, last / 2, last/2 + (last-last/2)/2, last / 4}
	if !slices.Equal(got, want) || m.Calls() != 5*len(l) {
		t.Error(got, want, m.Calls())
	}
	if s := Spread(m, l, got[:3]); s != (last-last/2)/2 || m.Calls() != 8*len(l) {
		t.Error(s, m.Calls())
	}
}

// As many pivots as may be of a table, and more: each one is chosen once.
func TestP191ManyPivots(t *testing.T) {
	var l []api.Object
	for i := range int32(3 * api.MaxPivots) {
		l = append(l, vec(i*i%257, i*31%101))
	}
	for _, p := range []int{api.MaxPivots, len(l), len(l) + 1} {
		for _, first := range []int{0, 77, len(l)} {
			checkChoose(t, api.L1, l, p, first)
		}
	}
}

// By a nil meter all are 0 away: there is nothing behind the first one.
func TestP191NilMeter(t *testing.T) {
	var m *metric.Meter
	for _, l := range lists(3) {
		for _, p := range counts(len(l)) {
			for _, first := range begins(len(l)) {
				if got, want := Choose(m, l, p, first), choose(0, l, p, first); !slices.Equal(got, want) || len(got) > 1 {
					t.Fatalf("Choose of %v, %d from %d on: %v, want %v", l, p, first, got, want)
				}
			}
			if s := Spread(m, l, []int{p, 0, 1}); s != 0 {
				t.Fatalf("Spread of %v: %d", l, s)
			}
		}
	}
}

func TestP192Told(t *testing.T) {
	l := line(0, 9, 4, -2)
	for _, c := range []struct {
		chosen     []int
		far, asked int
	}{
		{[]int{0}, 9, 4},
		{[]int{1}, 11, 4},
		{[]int{2}, 6, 4},
		{[]int{3}, 11, 4},
		{[]int{0, 1}, 4, 8},
		{[]int{1, 0}, 4, 8},
		{[]int{2, 3}, 5, 8},
		{[]int{0, 1, 2}, 2, 12},
		{[]int{3, 2, 1, 0}, 0, 16},
		{nil, 0, 0},
		{[]int{}, 0, 0},
		{[]int{-1}, 0, 0},
		{[]int{4}, 0, 0},
		{[]int{math.MinInt, math.MaxInt, 1 << 32, -1 << 32}, 0, 0},
		{[]int{-1, 2, 4}, 6, 4},
		{[]int{4, -1, 0, 1}, 4, 8},
		{[]int{0, 1, 99, -99}, 4, 8},
	} {
		m := metric.New(api.L1)
		if s := Spread(m, l, c.chosen); s != c.far || m.Calls() != c.asked {
			t.Errorf("from %v: %d, asks %d", c.chosen, s, m.Calls())
		}
	}
}

// One that is chosen twice is two of those that are chosen: it is asked for twice.
func TestP192Twice(t *testing.T) {
	l := line(0, 9, 4)
	m := metric.New(api.L1)
	if s := Spread(m, l, []int{1, 1}); s != 9 || m.Calls() != 6 {
		t.Error(s, m.Calls())
	}
	if s := Spread(m, l, []int{1, 0, 1, 1}); s != 4 || m.Calls() != 18 {
		t.Error(s, m.Calls())
	}
}

// All short lists of things, and all of places.
func TestP192AllShort(t *testing.T) {
	places := []int{math.MinInt, -1, 0, 1, 2, 3, math.MaxInt}
	chosen := [][]int{nil, {}}
	for _, a := range places {
		chosen = append(chosen, []int{a})
		for _, b := range places {
			chosen = append(chosen, []int{a, b})
			for _, c := range places {
				chosen = append(chosen, []int{a, b, c})
			}
		}
	}
	for _, kind := range []int{api.L1, api.Ham, api.Lev, 0} {
		for _, l := range lists(3) {
			for _, places := range chosen {
				checkSpread(t, kind, l, places)
			}
		}
	}
}

func TestP192Mixed(t *testing.T) {
	for seed := range uint64(300) {
		l := mixed(seed, int(seed%37))
		for _, kind := range metrics() {
			checkSpread(t, kind, l, shaken(seed+7, len(l)))
		}
	}
}

// Of no things there is nothing that is far, and no place is one of theirs.
func TestP192OfNothing(t *testing.T) {
	for _, kind := range metrics() {
		for _, l := range [][]api.Object{nil, {}} {
			for _, at := range begins(0) {
				checkSpread(t, kind, l, []int{at, 0})
			}
			checkSpread(t, kind, l, nil)
		}
	}
}

// checkFar asks whether those that are chosen are far from each other, and near to all.
func checkFar(t *testing.T, kind int, l []api.Object, p, first int) {
	t.Helper()
	m := metric.New(kind)
	chosen := Choose(m, l, p, first)
	if len(chosen) == 0 {
		return
	}
	reach := Spread(m, l, chosen)
	if len(chosen) < p && reach != 0 {
		t.Fatalf("%d of %v, by metric %d: %v, but one is %d away", p, l, kind, chosen, reach)
	}
	ahead, last := chosen[:len(chosen)-1], chosen[len(chosen)-1]
	if len(ahead) == 0 {
		return
	}
	far := from(kind, l, l[last], ahead)
	for i, a := range chosen {
		for _, b := range chosen[:i] {
			if d := metric.Dist(kind, l[a], l[b]); d < far || d == 0 {
				t.Fatalf("%d of %v, by metric %d: %v, but %d and %d are %d apart, less than %d", p, l, kind, chosen, a, b, d, far)
			}
		}
	}
	if reach > far {
		t.Fatalf("%d of %v, by metric %d: %v, but one is %d away, farther than %d", p, l, kind, chosen, reach, far)
	}
}

func TestP193FarFromEachOther(t *testing.T) {
	for seed := range uint64(40) {
		l := mixed(seed, int(3*seed))
		for _, kind := range metrics() {
			for p := range 20 {
				checkFar(t, kind, l, p, int(seed)*p)
			}
			checkFar(t, kind, l, len(l), 0)
			checkFar(t, kind, l, math.MaxInt, 0)
		}
	}
}

func TestP193AllShort(t *testing.T) {
	for _, kind := range []int{api.L1, api.Ham, api.Lev} {
		for _, l := range lists(4) {
			for p := range 6 {
				checkFar(t, kind, l, p, p%3)
			}
		}
	}
}

// Those of fewer are the beginning of those of more.
func TestP193Beginnings(t *testing.T) {
	for seed := range uint64(10) {
		l := mixed(seed, 40)
		for _, kind := range metrics() {
			all := Choose(metric.New(kind), l, len(l), int(seed))
			for p := range 50 {
				if got := Choose(metric.New(kind), l, p, int(seed)); !slices.Equal(got, all[:min(p, len(all))]) {
					t.Fatalf("%d, by metric %d: %v, of %v", p, kind, got, all)
				}
			}
		}
	}
}

// What is handed in stays as it is, behind its end, too.
func TestR3HandedIn(t *testing.T) {
	handed := func() ([]api.Object, []int) {
		l := []api.Object{vec(5, 1), vec(2), vec(5, 1, 0), str("a"), vec(-3), vec(8, 8)}
		return l, []int{4, 9, -1, 1, 4, 0, 2, 2}
	}
	l, chosen := handed()
	m := metric.New(api.L1)
	for p := range 7 {
		Choose(m, l[:4], p, p)
		Spread(m, l[:4], chosen[:p])
	}
	sameL, sameChosen := handed()
	if !reflect.DeepEqual(l, sameL) || !slices.Equal(chosen, sameChosen) {
		t.Error(l, chosen)
	}
}

// What is answered is new each time, and hangs on nothing that was asked ahead.
func TestR4Answered(t *testing.T) {
	l := line(3, 9, 1, 7, 0)
	m := metric.New(api.L1)
	want := []int{2, 1, 0, 3, 4}
	for asked := 25; asked <= 100; asked += 25 {
		got := Choose(m, l, 5, 2)
		if !slices.Equal(got, want) || m.Calls() != asked {
			t.Fatal(got, m.Calls())
		}
		clear(got)
	}
	checkSpread(t, api.L1, l, want[:2])
}
