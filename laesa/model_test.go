package laesa

import (
	"maps"
	"math"
	"reflect"
	"slices"
	"testing"

	"waywiser/api"
	"waywiser/draws"
	"waywiser/front"
	"waywiser/index"
	"waywiser/metric"
)

// A table is an index.
var _ index.Index = (*Table)(nil)

func vec(l ...int32) api.Object {
	return api.Object{Tag: api.TagVec, Vec: l}
}

func str(s string) api.Object {
	return api.Object{Tag: api.TagStr, Str: s}
}

// v is an item of a vector of one number.
func v(id uint64, n int32) api.Item {
	return api.Item{Id: id, Obj: vec(n)}
}

// metrics are all that there are.
func metrics() []int {
	return []int{api.L1, api.Ham, api.Lev}
}

// radii are how far things may be, below 0 and at the ends of all numbers, too.
func radii() []int {
	return []int{math.MinInt, -1, 0, 1, 2, 3, 5, 8, 100, api.MaxDist - 1, api.MaxDist, api.MaxDist + 1, math.MaxInt}
}

// counts are how many may be told, around how many there are, and at the ends of all numbers.
func counts(n int) []int {
	return []int{math.MinInt, -1, 0, 1, 2, 3, n - 1, n, n + 1, math.MaxInt}
}

// drawer hands out numbers below others, the same ones for each seed.
func drawer(seed uint64) func(below int) int {
	return func(below int) int {
		seed = seed*6364136223846793005 + 1442695040888963407
		return int(seed >> 33 % uint64(below))
	}
}

// thing is a right one of a metric, one of so few that some are the same.
func thing(kind int, next func(below int) int) api.Object {
	switch kind {
	case api.L1:
		return vec(int32(next(9))-4, int32(next(3)))
	case api.Ham:
		return str(string([]byte{"abc"[next(3)], "ab"[next(2)], "ab"[next(2)]}))
	}
	s := ""
	for range next(5) {
		s += string("ab"[next(2)])
	}
	return str(s)
}

// copied is a thing that shares nothing with another one.
func copied(x api.Object) api.Object {
	x.Vec = slices.Clone(x.Vec)
	return x
}

// model is the document's own words: things by their numbers, and pivots.
type model struct {
	kind, most int
	pivots     []api.Object
	things     map[uint64]api.Object
}

func newModel(kind, most int) *model {
	return &model{kind: kind, most: most, things: map[uint64]api.Object{}}
}

// bare is whether no pivot is 0 away from a thing.
func (m *model) bare(x api.Object) bool {
	for _, p := range m.pivots {
		if metric.Dist(m.kind, x, p) == 0 {
			return false
		}
	}
	return true
}

func (m *model) insert(x api.Item) api.Errno {
	if _, has := m.things[x.Id]; has {
		return api.ErrDup
	}
	if len(m.pivots) < m.most && m.bare(x.Obj) {
		m.pivots = append(m.pivots, copied(x.Obj))
	}
	m.things[x.Id] = copied(x.Obj)
	return api.OK
}

func (m *model) delete(id uint64) api.Errno {
	if _, has := m.things[id]; !has {
		return api.ErrAbsent
	}
	delete(m.things, id)
	return api.OK
}

func (m *model) bulk(l []api.Item, d *draws.Source) api.Errno {
	seen := maps.Clone(m.things)
	for _, x := range l {
		if _, has := seen[x.Id]; has {
			return api.ErrDup
		}
		seen[x.Id] = x.Obj
	}
	if len(m.pivots) > 0 {
		for _, x := range l {
			m.insert(x)
		}
		return api.OK
	}
	m.choose(l, d.Pick(len(l)))
	for _, x := range l {
		m.things[x.Id] = copied(x.Obj)
	}
	return api.OK
}

// choose takes as pivots the first place, and then ever the first of those that are farthest from all that were taken.
func (m *model) choose(l []api.Item, at int) {
	for len(m.pivots) < m.most && at < len(l) {
		m.pivots = append(m.pivots, copied(l[at].Obj))
		far := 0
		for i, x := range l {
			least := math.MaxInt
			for _, p := range m.pivots {
				least = min(least, metric.Dist(m.kind, p, x.Obj))
			}
			if least > far {
				far, at = least, i
			}
		}
		if far == 0 {
			return
		}
	}
}

// row is how far a thing is from each pivot.
func (m *model) row(x api.Object) []int {
	var row []int
	for _, p := range m.pivots {
		row = append(row, metric.Dist(m.kind, p, x))
	}
	return row
}

func (m *model) items() []api.Item {
	var l []api.Item
	for _, id := range slices.Sorted(maps.Keys(m.things)) {
		l = append(l, api.Item{Id: id, Obj: m.things[id]})
	}
	return l
}

func (m *model) image() api.Image {
	x := api.Image{Pivots: m.pivots}
	for _, item := range m.items() {
		x.Rows = append(x.Rows, api.Lr{Item: item, Row: m.row(item.Obj)})
	}
	return x
}

// all are the hits of all things, each behind those that it isn't ahead of.
func (m *model) all(q api.Object) []api.Hit {
	var l []api.Hit
	for _, item := range m.items() {
		h := api.Hit{Id: item.Id, Dist: metric.Dist(m.kind, item.Obj, q)}
		at := len(l)
		for at > 0 && h.Dist < l[at-1].Dist {
			at--
		}
		l = slices.Insert(l, at, h)
	}
	return l
}

// low is how near two things may be by what is told of them.
func low(a, b []int) int {
	least := 0
	for i, n := range a {
		if i < len(b) {
			least = max(least, n-b[i], b[i]-n)
		}
	}
	return least
}

// open is how many things may be within r.
func (m *model) open(q api.Object, r int) int {
	n := 0
	for _, x := range m.things {
		if low(m.row(x), m.row(q)) <= r {
			n++
		}
	}
	return n
}

// plain makes lists without anything nil, as they are alike.
func plain(x api.Image) api.Image {
	if len(x.Pivots) == 0 {
		x.Pivots = nil
	}
	if len(x.Rows) == 0 {
		x.Rows = nil
	}
	x.Pivots, x.Rows = slices.Clone(x.Pivots), slices.Clone(x.Rows)
	for i := range x.Pivots {
		x.Pivots[i].Vec = append([]int32{}, x.Pivots[i].Vec...)
	}
	for i := range x.Rows {
		x.Rows[i].Item.Obj.Vec = append([]int32{}, x.Rows[i].Item.Obj.Vec...)
		x.Rows[i].Row = append([]int{}, x.Rows[i].Row...)
	}
	return x
}

// sameImage tells whether two images have the same parts, and nothing else.
func sameImage(x, y api.Image) bool {
	return reflect.DeepEqual(plain(x), plain(y))
}

// checkState holds what a table is made of against a model.
func checkState(t *testing.T, x *Table, m *model) {
	t.Helper()
	want := m.image()
	if got := x.Image(); !sameImage(got, want) {
		t.Fatalf("metric %d, most %d: the image is %v, want %v", m.kind, m.most, got, want)
	}
	if got := (api.Image{Pivots: x.Pivots()}); !sameImage(got, api.Image{Pivots: want.Pivots}) {
		t.Fatalf("metric %d, most %d: pivots are %v, want %v", m.kind, m.most, got.Pivots, want.Pivots)
	}
	var rows []api.Lr
	for _, item := range x.Items() {
		rows = append(rows, api.Lr{Item: item, Row: m.row(item.Obj)})
	}
	if !sameImage(api.Image{Rows: rows}, api.Image{Rows: want.Rows}) {
		t.Fatalf("metric %d, most %d: items are %v, want %v", m.kind, m.most, x.Items(), m.items())
	}
	if x.Len() != len(m.things) {
		t.Fatalf("metric %d, most %d: Len is %d of %d", m.kind, m.most, x.Len(), len(m.things))
	}
}

// checkHits holds hits against those that are wanted.
func checkHits(t *testing.T, call string, n int, got, want []api.Hit) {
	t.Helper()
	if !slices.Equal(got, want) {
		t.Fatalf("%s of %d: %v, want %v", call, n, got, want)
	}
}

// checkAnswers holds what a table answers against a model, and how often it asks against how often it may.
func checkAnswers(t *testing.T, x *Table, meter *metric.Meter, m *model, q api.Object) {
	t.Helper()
	all, most := m.all(q), len(m.pivots)+len(m.things)
	for _, r := range radii() {
		was := meter.Calls()
		got := x.Range(q, r)
		if asked, want := meter.Calls()-was, len(m.pivots)+m.open(q, r); asked != want {
			t.Fatalf("metric %d, most %d: Range of %d asks %d times, want %d", m.kind, m.most, r, asked, want)
		}
		checkHits(t, "Range", r, got, slices.DeleteFunc(slices.Clone(all), func(h api.Hit) bool { return h.Dist > r }))
	}
	for _, k := range counts(len(all)) {
		was := meter.Calls()
		got := x.Near(q, k)
		if asked := meter.Calls() - was; asked > most {
			t.Fatalf("metric %d, most %d: Near of %d asks %d times of %d", m.kind, m.most, k, asked, most)
		}
		checkHits(t, "Near", k, got, all[:min(max(k, 0), len(all))])
	}
	was := meter.Calls()
	walk := x.Walk(q)
	checkHits(t, "Walk", len(all), front.Take(walk, math.MaxInt), all)
	if asked := meter.Calls() - was; asked > most {
		t.Fatalf("metric %d, most %d: a walk asks %d times of %d", m.kind, m.most, asked, most)
	}
	for range 2 {
		if h, ok := walk.Next(); h != (api.Hit{}) || ok || walk.Low() != api.MaxDist {
			t.Fatalf("a walk behind its end: %v, %t, %d", h, ok, walk.Low())
		}
	}
	checkHits(t, "a walk up to it", 2, front.Upto(x.Walk(q), 2), x.Range(q, 2))
}

// loaded is the table of an image, which there must be.
func loaded(t *testing.T, meter *metric.Meter, most int, x api.Image) *Table {
	t.Helper()
	table, e := Load(meter, most, x)
	if e != api.OK || table == nil {
		t.Fatalf("most %d: Load of %v: %d", most, x, e)
	}
	return table
}

// checkErrno holds an error against what is wanted.
func checkErrno(t *testing.T, call string, got, want api.Errno) {
	t.Helper()
	if got != want {
		t.Fatalf("%s: %d, want %d", call, got, want)
	}
}
