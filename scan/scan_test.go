package scan

import (
	"math"
	"reflect"
	"slices"
	"strings"
	"testing"

	"waywiser/api"
	"waywiser/metric"
)

func vec(l ...int32) api.Object {
	return api.Object{Tag: api.TagVec, Vec: l}
}

func str(s string) api.Object {
	return api.Object{Tag: api.TagStr, Str: s}
}

// items are things by the Ids 10, 9 .. from the first one on, so that rising places aren't rising Ids.
func items(objs ...api.Object) []api.Item {
	var l []api.Item
	for i, obj := range objs {
		l = append(l, api.Item{Id: uint64(10 - i), Obj: obj})
	}
	return l
}

// texts are items of texts.
func texts(l ...string) []api.Item {
	var objs []api.Object
	for _, s := range l {
		objs = append(objs, str(s))
	}
	return items(objs...)
}

// metrics are all that there are, and numbers that are none's.
func metrics() []int {
	return []int{api.L1, api.Ham, api.Lev, 0, 4, -1, math.MinInt, math.MaxInt}
}

// radii are how far things may be, below 0 and at the ends of all numbers, too.
func radii() []int {
	return []int{
		math.MinInt, math.MinInt + 1, -2, -1, 0, 1, 2, 3, 4, 5, 8, 13, 100,
		math.MaxUint32, api.MaxDist - 1, api.MaxDist, api.MaxDist + 1, math.MaxInt - 1, math.MaxInt,
	}
}

// counts are how many may be told, around how many there are, and at the ends of all numbers.
func counts(n int) []int {
	return []int{math.MinInt, math.MinInt + 1, -2, -1, 0, 1, 2, 3, n - 1, n, n + 1, api.MaxObjects, math.MaxInt - 1, math.MaxInt}
}

// few are things of which some are the same, and some have the other tag, both or none.
func few() []api.Object {
	return []api.Object{
		vec(0, 1), vec(2, 0), str("ab"), str("b"),
		{Tag: 3, Vec: []int32{1}, Str: "abc"}, {},
	}
}

// lists are all lists of up to n of the few, with Ids of which some are the same.
func lists(n int) [][]api.Item {
	all := [][]api.Item{nil}
	for i := 0; i < len(all) && len(all[i]) < n; i++ {
		for j, obj := range few() {
			id := uint64((5*len(all[i]) + 3*j) % 4)
			all = append(all, append(slices.Clone(all[i]), api.Item{Id: id, Obj: obj}))
		}
	}
	return all
}

// mixed are n things with numbers and bytes in no order, the same ones for each seed.
func mixed(seed uint64, n int) []api.Item {
	next := func(below uint64) uint64 {
		seed = seed*6364136223846793005 + 1442695040888963407
		return (seed >> 33) % below
	}
	var l []api.Item
	for range n {
		item := api.Item{Id: next(uint64(n)), Obj: api.Object{Tag: int(next(3))}}
		if next(8) == 0 {
			item.Id = math.MaxUint64 - item.Id
		}
		for range next(4) {
			item.Obj.Vec = append(item.Obj.Vec, int32(next(9))-4)
			item.Obj.Str += string("abc"[next(3)])
		}
		l = append(l, item)
	}
	return l
}

// ahead tells by the words of the document whether a hit is ahead of another one.
func ahead(a, b api.Hit) bool {
	return a.Dist < b.Dist || a.Dist == b.Dist && a.Id < b.Id
}

// all is the promise in its own words: each hit is put behind those that it isn't ahead of.
func all(kind int, l []api.Item, q api.Object) []api.Hit {
	var row []api.Hit
	for _, item := range l {
		h := api.Hit{Id: item.Id, Dist: metric.Dist(kind, item.Obj, q)}
		at := len(row)
		for at > 0 && ahead(h, row[at-1]) {
			at--
		}
		row = slices.Insert(row, at, h)
	}
	return row
}

// within are those that are at most r away.
func within(row []api.Hit, r int) []api.Hit {
	var l []api.Hit
	for _, h := range row {
		if h.Dist <= r {
			l = append(l, h)
		}
	}
	return l
}

// first are the first k.
func first(row []api.Hit, k int) []api.Hit {
	return row[:min(max(k, 0), len(row))]
}

// pairs is the promise in its own words: of all two places those that hold.
func pairs(kind int, l []api.Item, r int) []Two {
	var row []Two
	for a := range l {
		for b := range l {
			if d := metric.Dist(kind, l[a].Obj, l[b].Obj); a < b && d <= r {
				row = append(row, Two{a, b, d})
			}
		}
	}
	return row
}

// meter is a meter that was asked so often.
func meter(kind, asked int) *metric.Meter {
	m := metric.New(kind)
	for range asked {
		m.Dist(api.Object{}, api.Object{})
	}
	return m
}

// check holds hits against those that are wanted, and how often a meter was asked against how often it may be.
func check(t *testing.T, call string, m *metric.Meter, asked int, got, want []api.Hit) {
	t.Helper()
	if !slices.Equal(got, want) {
		t.Fatalf("%s, by metric %d, answers %v, want %v", call, m.Metric(), got, want)
	}
	if m.Calls() != asked {
		t.Fatalf("%s, by metric %d, asks till %d, want %d", call, m.Metric(), m.Calls(), asked)
	}
}

// checkAll asks for all hits in all ways.
func checkAll(t *testing.T, kind int, l []api.Item, q api.Object) {
	t.Helper()
	row := all(kind, l, q)
	m := metric.New(kind)
	check(t, "All", m, len(l), All(m, l, q), row)
	for _, r := range radii() {
		m = meter(kind, 3)
		check(t, "Range", m, 3+len(l), Range(m, l, q, r), within(row, r))
	}
	for _, k := range counts(len(l)) {
		m = meter(kind, 2)
		check(t, "Near", m, 2+len(l), Near(m, l, q, k), first(row, k))
	}
}

// checkPairs asks for pairs by all fars.
func checkPairs(t *testing.T, kind int, l []api.Item) {
	t.Helper()
	for _, r := range radii() {
		m := meter(kind, 5)
		if got, want := Pairs(m, l, r), pairs(kind, l, r); !slices.Equal(got, want) {
			t.Fatalf("Pairs of %v, by metric %d, %d apart: %v, want %v", l, kind, r, got, want)
		}
		if want := 5 + len(l)*(len(l)-1)/2; m.Calls() != want {
			t.Fatalf("Pairs of %d things asks till %d, want %d", len(l), m.Calls(), want)
		}
	}
}

func TestP171Told(t *testing.T) {
	l := texts("kitten", "sitting", "kit", "kitten")
	m := metric.New(api.Lev)
	row := []api.Hit{{Id: 7}, {Id: 10}, {Id: 8, Dist: 3}, {Id: 9, Dist: 3}}
	check(t, "All", m, 4, All(m, l, str("kitten")), row)
	check(t, "Range", m, 8, Range(m, l, str("kitten"), 3), row)
	check(t, "Range", m, 12, Range(m, l, str("kitten"), 2), row[:2])
	check(t, "Range", m, 16, Range(m, l, str("kitten"), 0), row[:2])
	check(t, "Range", m, 20, Range(m, l, str("kitten"), -1), nil)
	check(t, "Near", m, 24, Near(m, l, str("kitten"), 3), row[:3])
	check(t, "Near", m, 28, Near(m, l, str("kitten"), 0), nil)
	check(t, "Near", m, 32, Near(m, l, str("kitten"), 9), row)
}

// All short lists of things, right ones and none, each one asked for by each metric.
func TestP171AllShort(t *testing.T) {
	for _, kind := range metrics() {
		for _, l := range lists(3) {
			for _, q := range few() {
				checkAll(t, kind, l, q)
			}
		}
	}
}

func TestP171Mixed(t *testing.T) {
	for seed := range uint64(20) {
		for _, kind := range metrics() {
			l := mixed(seed, 60)
			checkAll(t, kind, l, l[seed].Obj)
			checkAll(t, kind, l, vec(1, -1))
			checkAll(t, kind, l, str("abba"))
		}
	}
}

// The example of the chapter: of no things nothing, and none is asked for.
func TestP171OfNothing(t *testing.T) {
	for _, kind := range metrics() {
		for _, l := range [][]api.Item{nil, {}} {
			checkAll(t, kind, l, vec(3))
			checkAll(t, kind, l, api.Object{})
		}
	}
}

// Several that are the same stay several: of one Id, too.
func TestP171TheSameOnes(t *testing.T) {
	l := slices.Repeat([]api.Item{{Id: 4, Obj: vec(2)}, {Id: 3, Obj: vec(3)}}, 3)
	for _, q := range []api.Object{vec(2), vec(3), vec(-7)} {
		checkAll(t, api.L1, l, q)
	}
	m := metric.New(api.L1)
	three := slices.Repeat([]api.Hit{{Id: 4}}, 3)
	check(t, "Range", m, 6, Range(m, l, vec(2), 0), three)
	check(t, "Near", m, 12, Near(m, l, vec(2), 2), three[:2])
}

// Of one Dist the lesser Id is ahead, through all numbers that an Id may be.
func TestP171TheOrder(t *testing.T) {
	var l []api.Item
	for _, id := range []uint64{math.MaxUint64, 1 << 63, 1<<63 - 1, 1, 0} {
		l = append(l, api.Item{Id: id, Obj: vec(1)}, api.Item{Id: id, Obj: vec(0)}, api.Item{Id: id, Obj: vec(-1)})
	}
	for _, q := range []api.Object{vec(0), vec(1), vec(5)} {
		checkAll(t, api.L1, l, q)
	}
	if h := Near(metric.New(api.L1), l, vec(0), 6); h[0].Id != 0 || h[4].Id != math.MaxUint64 || h[5] != (api.Hit{Dist: 1}) {
		t.Error(h)
	}
}

// The farthest that right things may be, and what is farther.
func TestP171TheFarthest(t *testing.T) {
	low := vec(slices.Repeat([]int32{math.MinInt32}, api.MaxSize)...)
	high := vec(slices.Repeat([]int32{math.MaxInt32}, api.MaxSize)...)
	l := items(low, high, vec(), low)
	for _, q := range []api.Object{low, high, vec(7)} {
		checkAll(t, api.L1, l, q)
	}
	m := metric.New(api.L1)
	far := api.MaxSize * math.MaxUint32
	check(t, "Range", m, 4, Range(m, l, high, far), []api.Hit{{Id: 9}, {Id: 8, Dist: api.MaxSize * math.MaxInt32}, {Id: 7, Dist: far}, {Id: 10, Dist: far}})
	check(t, "Range", m, 8, Range(m, l, high, far-1), []api.Hit{{Id: 9}, {Id: 8, Dist: api.MaxSize * math.MaxInt32}})

	long := texts(strings.Repeat("a", 300), strings.Repeat("ab", 150), strings.Repeat("b", 300), "")
	for _, kind := range []int{api.Ham, api.Lev} {
		checkAll(t, kind, long, str(strings.Repeat("ba", 150)))
	}
}

// As many things as may be in an index.
func TestP171OfMany(t *testing.T) {
	l := make([]api.Item, api.MaxObjects)
	for i := range l {
		l[i] = api.Item{Id: uint64(i), Obj: vec(int32(len(l) - i))}
	}
	m := metric.New(api.L1)
	h := Near(m, l, vec(0), 3)
	last := uint64(len(l) - 1)
	check(t, "Near", m, len(l), h, []api.Hit{{Id: last, Dist: 1}, {Id: last - 1, Dist: 2}, {Id: last - 2, Dist: 3}})
	check(t, "Range", m, 2*len(l), Range(m, l, vec(0), 3), h)
	row := All(m, l, vec(0))
	if len(row) != len(l) || !slices.Equal(row[:3], h) || row[last] != (api.Hit{Dist: len(l)}) || m.Calls() != 3*len(l) {
		t.Error(len(row), row[:3], row[last], m.Calls())
	}
}

// The meter goes on with what it was asked, and its metric alone tells.
func TestP171TheMeter(t *testing.T) {
	l := []api.Item{
		{Id: 1, Obj: api.Object{Tag: api.TagVec, Vec: []int32{5}, Str: "abc"}},
		{Id: 2, Obj: api.Object{Tag: api.TagStr, Vec: []int32{1}, Str: "bca"}},
	}
	q := api.Object{Tag: api.TagStr, Vec: []int32{0}, Str: "ab"}
	for kind, want := range map[int][]api.Hit{
		api.L1:  {{Id: 2, Dist: 1}, {Id: 1, Dist: 5}},
		api.Ham: {{Id: 1, Dist: 1}, {Id: 2, Dist: 3}},
		api.Lev: {{Id: 1, Dist: 1}, {Id: 2, Dist: 3}},
		0:       {{Id: 1}, {Id: 2}},
	} {
		m := meter(kind, 10)
		check(t, "All", m, 12, All(m, l, q), want)
		check(t, "Range", m, 14, Range(m, l, q, 5), want)
		check(t, "Near", m, 16, Near(m, l, q, 2), want)
		if m.Metric() != kind {
			t.Errorf("the metric %d is %d", kind, m.Metric())
		}
	}
}

func TestP172Told(t *testing.T) {
	m := metric.New(api.Lev)
	l := texts("cat", "cut", "hat", "cat", "dog")
	want := []Two{{0, 1, 1}, {0, 2, 1}, {0, 3, 0}, {1, 3, 1}, {2, 3, 1}}
	if p := Pairs(m, l, 1); !slices.Equal(p, want) || m.Calls() != 10 {
		t.Error(p, m.Calls())
	}
	if p := Pairs(m, l, 0); !slices.Equal(p, []Two{{0, 3, 0}}) || m.Calls() != 20 {
		t.Error(p, m.Calls())
	}
	if p := Pairs(m, l, -1); len(p) != 0 || m.Calls() != 30 {
		t.Error(p, m.Calls())
	}
	if p := Pairs(m, l, math.MaxInt); len(p) != 10 || p[9] != (Two{3, 4, 3}) || m.Calls() != 40 {
		t.Error(p, m.Calls())
	}
}

func TestP172AllShort(t *testing.T) {
	for _, kind := range metrics() {
		for _, l := range lists(4) {
			checkPairs(t, kind, l)
		}
	}
}

func TestP172Mixed(t *testing.T) {
	for seed := range uint64(10) {
		for _, kind := range metrics() {
			checkPairs(t, kind, mixed(seed, 40))
		}
	}
}

// Of none, and of one, there are no two: nothing is asked for.
func TestP172OfNothing(t *testing.T) {
	for _, kind := range metrics() {
		for _, l := range [][]api.Item{nil, {}, items(vec(3)), items(api.Object{})} {
			checkPairs(t, kind, l)
			if p := Pairs(metric.New(kind), l, math.MaxInt); len(p) != 0 {
				t.Errorf("of %v: %v", l, p)
			}
		}
	}
}

// Places are told, whatever the Ids are, and rise, however far things are.
func TestP172Places(t *testing.T) {
	l := []api.Item{{Id: 9, Obj: vec(9)}, {Id: 9, Obj: vec(0)}, {Id: 0, Obj: vec(8)}, {Id: math.MaxUint64, Obj: vec(1)}}
	m := metric.New(api.L1)
	want := []Two{{0, 1, 9}, {0, 2, 1}, {0, 3, 8}, {1, 2, 8}, {1, 3, 1}, {2, 3, 7}}
	if p := Pairs(m, l, 9); !slices.Equal(p, want) {
		t.Error(p)
	}
	if p := Pairs(m, l, 7); !slices.Equal(p, []Two{{0, 2, 1}, {1, 3, 1}, {2, 3, 7}}) {
		t.Error(p)
	}
}

func TestP173NilMeter(t *testing.T) {
	var m *metric.Meter
	for _, l := range lists(3) {
		var row []api.Hit
		for _, item := range l {
			row = append(row, api.Hit{Id: item.Id})
		}
		slices.SortFunc(row, func(a, b api.Hit) int { return int(a.Id) - int(b.Id) })
		for _, q := range few() {
			check(t, "All", m, 0, All(m, l, q), row)
			for _, k := range counts(len(l)) {
				check(t, "Near", m, 0, Near(m, l, q, k), first(row, k))
			}
			for _, r := range radii() {
				check(t, "Range", m, 0, Range(m, l, q, r), nil)
			}
		}
		for _, r := range radii() {
			if p := Pairs(m, l, r); len(p) != 0 {
				t.Fatalf("of %v, %d apart: %v", l, r, p)
			}
		}
	}
}

func TestP174Beginnings(t *testing.T) {
	for seed := range uint64(10) {
		for _, kind := range metrics() {
			m, l := metric.New(kind), mixed(seed, 50)
			q := l[seed].Obj
			row := All(m, l, q)
			for k := -2; k < 60; k++ {
				if got := Near(m, l, q, k); !slices.Equal(got, first(row, k)) {
					t.Fatalf("Near of %d, by metric %d: %v, of %v", k, kind, got, row)
				}
			}
			var lesser []api.Hit
			for r := -2; r < 20; r++ {
				got := Range(m, l, q, r)
				if len(got) < len(lesser) || !slices.Equal(got[:len(lesser)], lesser) || !slices.Equal(got, row[:len(got)]) {
					t.Fatalf("Range of %d, by metric %d: %v, behind %v", r, kind, got, lesser)
				}
				lesser = got
			}
			if kind != api.L1 && len(lesser) != len(row) {
				t.Fatalf("by metric %d: %v of %v", kind, lesser, row)
			}
		}
	}
}

// What is handed in stays as it is, and what is answered is new each time.
func TestR3HandedIn(t *testing.T) {
	handed := func() ([]api.Item, api.Object) {
		return append(items(vec(5), vec(2), vec(5), vec(3)), api.Item{Id: 2, Obj: str("a")}), vec(4, 0)
	}
	l, q := handed()
	l, q.Vec = slices.Grow(l, 9), slices.Grow(q.Vec, 9)
	m := metric.New(api.L1)
	asks := []func() []api.Hit{
		func() []api.Hit { return All(m, l, q) },
		func() []api.Hit { return Range(m, l, q, 2) },
		func() []api.Hit { return Near(m, l, q, 3) },
	}
	for i, ask := range asks {
		one := ask()
		want := slices.Clone(one)
		for j := range one {
			one[j] = api.Hit{Id: 77, Dist: 77}
		}
		if two := ask(); !slices.Equal(two, want) || len(two) == 0 {
			t.Errorf("ask no. %d answers %v, want %v", i, two, want)
		}
	}
	one := Pairs(m, l, 3)
	want := slices.Clone(one)
	clear(one)
	if two := Pairs(m, l, 3); !slices.Equal(two, want) || len(two) == 0 {
		t.Error(two, want)
	}
	sameL, sameQ := handed()
	if !reflect.DeepEqual(l, sameL) || !reflect.DeepEqual(q, sameQ) {
		t.Error(l, q)
	}
}
