package bktree

import (
	"math"
	"reflect"
	"slices"
	"testing"

	"waywiser/api"
	"waywiser/front"
	"waywiser/index"
	"waywiser/metric"
)

// A tree is an index.
var _ index.Index = (*Tree)(nil)

func vec(l ...int32) api.Object {
	return api.Object{Tag: api.TagVec, Vec: l}
}

func str(s string) api.Object {
	return api.Object{Tag: api.TagStr, Str: s}
}

// v is an item of a vector of one number.
func v(id uint64, n int32) api.Item {
	return api.Item{Id: id, Obj: vec(n)}
}

// s is an item of a text.
func s(id uint64, text string) api.Item {
	return api.Item{Id: id, Obj: str(text)}
}

// metrics are all that there are.
func metrics() []int {
	return []int{api.L1, api.Ham, api.Lev}
}

// radii are how far things may be, below 0 and at the ends of all numbers, too.
func radii() []int {
	return []int{math.MinInt, -1, 0, 1, 2, 3, 5, 8, 100, api.MaxDist - 1, api.MaxDist, api.MaxDist + 1, math.MaxInt}
}

// counts are how many may be told, around how many there are, and at the ends of all numbers.
func counts(n int) []int {
	return []int{math.MinInt, -1, 0, 1, 2, 3, n - 1, n, n + 1, math.MaxInt}
}

// drawer hands out numbers below others, the same ones for each seed.
func drawer(seed uint64) func(below int) int {
	return func(below int) int {
		seed = seed*6364136223846793005 + 1442695040888963407
		return int(seed >> 33 % uint64(below))
	}
}

// thing is a right one of a metric, one of so few that some are the same.
func thing(kind int, next func(below int) int) api.Object {
	switch kind {
	case api.L1:
		return vec(int32(next(9))-4, int32(next(3)))
	case api.Ham:
		return str(string([]byte{"abc"[next(3)], "ab"[next(2)], "ab"[next(2)]}))
	}
	text := ""
	for range next(5) {
		text += string("ab"[next(2)])
	}
	return str(text)
}

// model is the document's own words: nodes one behind the other, gone through from the first one to the last.
type model struct {
	kind  int
	nodes []api.Bk
}

func newModel(kind int) *model {
	return &model{kind: kind}
}

func (m *model) dist(x, y api.Object) int {
	return metric.Dist(m.kind, x, y)
}

// find is the place of the node of a number that isn't gone, -1 of none.
func (m *model) find(id uint64) int {
	return slices.IndexFunc(m.nodes, func(n api.Bk) bool { return !n.Gone && n.Item.Id == id })
}

// hang puts x where it has to hang.
func (m *model) hang(x api.Item) {
	x.Obj.Vec = slices.Clone(x.Obj.Vec)
	if len(m.nodes) == 0 {
		m.nodes = []api.Bk{{Item: x, Parent: -1}}
		return
	}
	for at := 0; ; {
		far := m.dist(x.Obj, m.nodes[at].Item.Obj)
		kid := slices.IndexFunc(m.nodes, func(n api.Bk) bool { return n.Parent == at && n.Edge == far })
		if kid < 0 {
			m.nodes = append(m.nodes, api.Bk{Item: x, Parent: at, Edge: far})
			return
		}
		at = kid
	}
}

func (m *model) insert(x api.Item) api.Errno {
	if m.find(x.Id) >= 0 {
		return api.ErrDup
	}
	m.hang(x)
	return api.OK
}

func (m *model) delete(id uint64) api.Errno {
	at := m.find(id)
	if at < 0 {
		return api.ErrAbsent
	}
	m.nodes[at].Gone = true
	if 2*m.gone() > len(m.nodes) {
		was := m.nodes
		m.nodes = nil
		for _, n := range was {
			if !n.Gone {
				m.hang(n.Item)
			}
		}
	}
	return api.OK
}

func (m *model) bulk(l []api.Item) api.Errno {
	for i, x := range l {
		again := slices.ContainsFunc(l[:i], func(y api.Item) bool { return y.Id == x.Id })
		if again || m.find(x.Id) >= 0 {
			return api.ErrDup
		}
	}
	for _, x := range l {
		m.hang(x)
	}
	return api.OK
}

func (m *model) gone() int {
	return len(m.nodes) - len(m.items())
}

// depth is how many nodes stand on the longest way up.
func (m *model) depth() int {
	deepest := 0
	for at := range m.nodes {
		depth := 0
		for up := at; up >= 0; up = m.nodes[up].Parent {
			depth++
		}
		deepest = max(deepest, depth)
	}
	return deepest
}

func (m *model) items() []api.Item {
	var l []api.Item
	for _, n := range m.nodes {
		if !n.Gone {
			l = append(l, n.Item)
		}
	}
	slices.SortFunc(l, func(a, b api.Item) int {
		if a.Id < b.Id {
			return -1
		}
		return 1
	})
	return l
}

func (m *model) image() api.Image {
	return api.Image{Bk: m.nodes}
}

// all are the hits of all things, each behind those that it isn't ahead of.
func (m *model) all(q api.Object) []api.Hit {
	var l []api.Hit
	for _, item := range m.items() {
		h := api.Hit{Id: item.Id, Dist: m.dist(item.Obj, q)}
		at := len(l)
		for at > 0 && h.Dist < l[at-1].Dist {
			at--
		}
		l = slices.Insert(l, at, h)
	}
	return l
}

// broughtIn is what a number counts as where distances are held against each other (1).
func broughtIn(n int) int {
	return min(max(n, 0), api.MaxDist)
}

// asks is how many nodes Range asks for: the root, and of each that it asks for the kids that may be within r.
func (m *model) asks(q api.Object, r int) int {
	n := 0
	asked := make([]bool, len(m.nodes))
	for at, x := range m.nodes {
		if at > 0 {
			gap := broughtIn(m.dist(q, m.nodes[x.Parent].Item.Obj)) - broughtIn(x.Edge)
			asked[at] = asked[x.Parent] && max(gap, -gap) <= r
		} else {
			asked[at] = true
		}
		if asked[at] {
			n++
		}
	}
	return n
}

// clone is a model that shares nothing with m.
func (m *model) clone() *model {
	c := newModel(m.kind)
	for _, n := range m.nodes {
		n.Item.Obj.Vec = slices.Clone(n.Item.Obj.Vec)
		c.nodes = append(c.nodes, n)
	}
	return c
}

// plain makes lists without anything alike, nil or not.
func plain(x api.Image) api.Image {
	x.Bk = append([]api.Bk{}, x.Bk...)
	for i := range x.Bk {
		x.Bk[i].Item.Obj.Vec = append([]int32{}, x.Bk[i].Item.Obj.Vec...)
	}
	return x
}

// sameImage tells whether two images have the same parts, and nothing else.
func sameImage(x, y api.Image) bool {
	return reflect.DeepEqual(plain(x), plain(y))
}

// sameItems tells whether two lists have the same things.
func sameItems(x, y []api.Item) bool {
	return slices.EqualFunc(x, y, func(a, b api.Item) bool {
		return a.Id == b.Id && a.Obj.Tag == b.Obj.Tag && a.Obj.Str == b.Obj.Str && slices.Equal(a.Obj.Vec, b.Obj.Vec)
	})
}

// checkState holds what a tree is made of against a model.
func checkState(t *testing.T, x *Tree, m *model) {
	t.Helper()
	if got := x.Image(); !sameImage(got, m.image()) {
		t.Fatalf("metric %d: the image is %v, want %v", m.kind, got.Bk, m.nodes)
	}
	if got, want := x.Items(), m.items(); !sameItems(got, want) {
		t.Fatalf("metric %d: items are %v, want %v", m.kind, got, want)
	}
	if x.Len() != len(m.items()) || x.Gone() != m.gone() || x.Depth() != m.depth() {
		t.Fatalf("metric %d: Len %d, Gone %d, Depth %d; want %d, %d, %d", m.kind, x.Len(), x.Gone(), x.Depth(), len(m.items()), m.gone(), m.depth())
	}
}

// checkHits holds hits against those that are wanted.
func checkHits(t *testing.T, call string, n int, got, want []api.Hit) {
	t.Helper()
	if !slices.Equal(got, want) {
		t.Fatalf("%s of %d: %v, want %v", call, n, got, want)
	}
}

// checkRange holds what Range answers against a model, and how often it asks against how often it has to.
func checkRange(t *testing.T, x *Tree, meter *metric.Meter, m *model, q api.Object, r int) {
	t.Helper()
	was := meter.Calls()
	got := x.Range(q, r)
	if asked, want := meter.Calls()-was, m.asks(q, r); asked != want {
		t.Fatalf("metric %d: Range of %d asks %d times, want %d", m.kind, r, asked, want)
	}
	checkHits(t, "Range", r, got, slices.DeleteFunc(m.all(q), func(h api.Hit) bool { return h.Dist > r }))
}

// checkAnswers holds what a tree answers against a model, and how often it asks against how often it may.
func checkAnswers(t *testing.T, x *Tree, meter *metric.Meter, m *model, q api.Object) {
	t.Helper()
	for _, r := range radii() {
		checkRange(t, x, meter, m, q, r)
	}
	all, most := m.all(q), len(m.nodes)
	for _, k := range counts(len(all)) {
		was := meter.Calls()
		got := x.Near(q, k)
		if asked := meter.Calls() - was; asked > most {
			t.Fatalf("metric %d: Near of %d asks %d times of %d", m.kind, k, asked, most)
		}
		checkHits(t, "Near", k, got, all[:min(max(k, 0), len(all))])
	}
	was := meter.Calls()
	walk := x.Walk(q)
	checkHits(t, "Walk", len(all), front.Take(walk, math.MaxInt), all)
	if asked := meter.Calls() - was; asked > most {
		t.Fatalf("metric %d: a walk asks %d times of %d", m.kind, asked, most)
	}
	for range 2 {
		if h, ok := walk.Next(); h != (api.Hit{}) || ok || walk.Low() != api.MaxDist {
			t.Fatalf("a walk behind its end: %v, %t, %d", h, ok, walk.Low())
		}
	}
	checkHits(t, "a walk up to it", 2, front.Upto(x.Walk(q), 2), x.Range(q, 2))
}

// loaded is the tree of an image, which there must be.
func loaded(t *testing.T, meter *metric.Meter, x api.Image) *Tree {
	t.Helper()
	tree, e := Load(meter, x)
	if e != api.OK || tree == nil {
		t.Fatalf("Load of %v: %d", x, e)
	}
	return tree
}

// checkErrno holds an error against what is wanted.
func checkErrno(t *testing.T, call string, got, want api.Errno) {
	t.Helper()
	if got != want {
		t.Fatalf("%s: %d, want %d", call, got, want)
	}
}
