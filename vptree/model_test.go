package vptree

import (
	"math"
	"reflect"
	"slices"
	"testing"

	"waywiser/api"
	"waywiser/draws"
	"waywiser/front"
	"waywiser/index"
	"waywiser/metric"
)

// A tree is an index.
var _ index.Index = (*Tree)(nil)

func vec(l ...int32) api.Object {
	return api.Object{Tag: api.TagVec, Vec: l}
}

func str(s string) api.Object {
	return api.Object{Tag: api.TagStr, Str: s}
}

// v is an item of a vector of one number.
func v(id uint64, n int32) api.Item {
	return api.Item{Id: id, Obj: vec(n)}
}

// vs are items of vectors of one number, by the numbers from 0 on.
func vs(l ...int32) []api.Item {
	var items []api.Item
	for i, n := range l {
		items = append(items, v(uint64(i), n))
	}
	return items
}

// metrics are all that there are.
func metrics() []int {
	return []int{api.L1, api.Ham, api.Lev}
}

// mosts are how many things a leaf may have, below 1, too.
func mosts() []int {
	return []int{math.MinInt, 0, 1, 2, 3, 4, 7, math.MaxInt}
}

// radii are how far things may be, below 0 and at the ends of all numbers, too.
func radii() []int {
	return []int{math.MinInt, -1, 0, 1, 2, 3, 5, 8, 100, api.MaxDist - 1, api.MaxDist, api.MaxDist + 1, math.MaxInt}
}

// counts are how many may be told, around how many there are, and at the ends of all numbers.
func counts(n int) []int {
	return []int{math.MinInt, -1, 0, 1, 2, 3, n - 1, n, n + 1, math.MaxInt}
}

// drawer hands out numbers below others, the same ones for each seed.
func drawer(seed uint64) func(below int) int {
	return func(below int) int {
		seed = seed*6364136223846793005 + 1442695040888963407
		return int(seed >> 33 % uint64(below))
	}
}

// thing is a right one of a metric, one of so few that some are the same.
func thing(kind int, next func(below int) int) api.Object {
	switch kind {
	case api.L1:
		return vec(int32(next(9))-4, int32(next(3)))
	case api.Ham:
		return str(string([]byte{"abc"[next(3)], "ab"[next(2)], "ab"[next(2)]}))
	}
	text := ""
	for range next(5) {
		text += string("ab"[next(2)])
	}
	return str(text)
}

// spot is a node of a model, which has its kids themselves. In ends are InLow, InHigh, OutLow and OutHigh.
type spot struct {
	leaf    bool
	bucket  []api.Item
	vantage api.Item
	gone    bool
	in, out *spot
	ends    [4]int
}

// model is the document's own words.
type model struct {
	kind, most int
	root       *spot
}

func newModel(kind, most int) *model {
	return &model{kind: kind, most: max(most, 1)}
}

func (m *model) dist(x, y api.Item) int {
	return metric.Dist(m.kind, x.Obj, y.Obj)
}

// built is what is Built of things. Which half one is in is told by how many others are ahead of it.
func (m *model) built(l []api.Item, d *draws.Source) *spot {
	if len(l) <= m.most {
		return &spot{leaf: true, bucket: slices.Clone(l)}
	}
	at := d.Pick(len(l))
	n := &spot{vantage: l[at]}
	others := slices.Concat(l[:at], l[at+1:])
	var halves [2][]api.Item
	for i, x := range others {
		ahead := 0
		for j, y := range others {
			if gap := m.dist(n.vantage, y) - m.dist(n.vantage, x); gap < 0 || gap == 0 && j < i {
				ahead++
			}
		}
		half := 0
		if ahead >= len(others)/2 {
			half = 1
		}
		halves[half] = append(halves[half], x)
	}
	for i, half := range halves {
		low, high := 1, 0
		for k, x := range half {
			far := m.dist(n.vantage, x)
			if k == 0 {
				low, high = far, far
			}
			low, high = min(low, far), max(high, far)
		}
		n.ends[2*i], n.ends[2*i+1] = low, high
	}
	n.in = m.built(halves[0], d)
	n.out = m.built(halves[1], d)
	return n
}

// build makes the whole anew.
func (m *model) build(l []api.Item, d *draws.Source) {
	m.root = nil
	if len(l) > 0 {
		m.root = m.built(l, d)
	}
}

// put puts x where it has to be.
func (m *model) put(x api.Item, d *draws.Source) {
	if m.root == nil {
		m.root = &spot{leaf: true, bucket: []api.Item{x}}
		return
	}
	n := m.root
	for !n.leaf {
		far := m.dist(x, n.vantage)
		next, ends := n.in, n.ends[:2]
		if far > n.ends[1] && (far >= n.ends[2] || far-n.ends[1] > n.ends[2]-far) {
			next, ends = n.out, n.ends[2:]
		}
		if ends[0] > ends[1] {
			ends[0], ends[1] = far, far
		}
		ends[0], ends[1] = min(ends[0], far), max(ends[1], far)
		n = next
	}
	n.bucket = append(n.bucket, x)
	if len(n.bucket) > m.most {
		*n = *m.built(n.bucket, d)
	}
}

func (m *model) insert(x api.Item, d *draws.Source) api.Errno {
	if m.has(x.Id) {
		return api.ErrDup
	}
	x.Obj.Vec = slices.Clone(x.Obj.Vec)
	m.put(x, d)
	return api.OK
}

func (m *model) delete(id uint64, d *draws.Source) api.Errno {
	if !m.has(id) {
		return api.ErrAbsent
	}
	is := func(x api.Item) bool { return x.Id == id }
	for _, level := range m.levels() {
		for _, n := range level {
			n.bucket = slices.DeleteFunc(n.bucket, is)
			if !n.leaf && !n.gone && is(n.vantage) {
				n.gone = true
				if gone, all := m.vantages(); 2*gone > all {
					m.build(m.items(), d)
				}
				return api.OK
			}
		}
	}
	return api.OK
}

func (m *model) bulk(l []api.Item, d *draws.Source) api.Errno {
	for i, x := range l {
		again := slices.ContainsFunc(l[:i], func(y api.Item) bool { return y.Id == x.Id })
		if again || m.has(x.Id) {
			return api.ErrDup
		}
	}
	l = slices.Clone(l)
	for i := range l {
		l[i].Obj.Vec = slices.Clone(l[i].Obj.Vec)
	}
	if m.root == nil {
		m.build(l, d)
		return api.OK
	}
	for _, x := range l {
		m.put(x, d)
	}
	return api.OK
}

// levels are all nodes, each level in its order.
func (m *model) levels() [][]*spot {
	var levels [][]*spot
	level := []*spot{m.root}
	if m.root == nil {
		return nil
	}
	for len(level) > 0 {
		levels = append(levels, level)
		var below []*spot
		for _, n := range level {
			if !n.leaf {
				below = append(below, n.in, n.out)
			}
		}
		level = below
	}
	return levels
}

func (m *model) depth() int {
	return len(m.levels())
}

// vantages is how many of them are gone, and how many there are.
func (m *model) vantages() (int, int) {
	gone, all := 0, 0
	for _, n := range slices.Concat(m.levels()...) {
		if !n.leaf {
			all++
		}
		if n.gone {
			gone++
		}
	}
	return gone, all
}

func (m *model) gone() int {
	gone, _ := m.vantages()
	return gone
}

func (m *model) items() []api.Item {
	var l []api.Item
	for _, n := range slices.Concat(m.levels()...) {
		l = append(l, n.bucket...)
		if !n.leaf && !n.gone {
			l = append(l, n.vantage)
		}
	}
	slices.SortFunc(l, func(a, b api.Item) int {
		if a.Id < b.Id {
			return -1
		}
		return 1
	})
	return l
}

func (m *model) has(id uint64) bool {
	return slices.ContainsFunc(m.items(), func(x api.Item) bool { return x.Id == id })
}

func (m *model) image() api.Image {
	all := slices.Concat(m.levels()...)
	var l []api.Vp
	for _, n := range all {
		p := api.Vp{Leaf: n.leaf, Bucket: slices.Clone(n.bucket), Vantage: n.vantage, Gone: n.gone, Parent: -1}
		for at, up := range all {
			if !up.leaf && (up.in == n || up.out == n) {
				p.Parent = at
			}
		}
		if !n.leaf {
			p.In, p.Out = slices.Index(all, n.in), slices.Index(all, n.out)
			p.InLow, p.InHigh, p.OutLow, p.OutHigh = n.ends[0], n.ends[1], n.ends[2], n.ends[3]
		}
		l = append(l, p)
	}
	return plain(api.Image{Vp: l})
}

// modelOf is the model of the nodes of an image, in whatever order they stand.
func modelOf(kind, most int, l []api.Vp) *model {
	m := newModel(kind, most)
	all := make([]*spot, len(l))
	for at := range l {
		all[at] = &spot{}
	}
	for at, p := range plain(api.Image{Vp: l}).Vp {
		n := all[at]
		n.leaf, n.bucket, n.vantage, n.gone = p.Leaf, p.Bucket, p.Vantage, p.Gone
		if !p.Leaf {
			n.in, n.out, n.ends = all[p.In], all[p.Out], [4]int{p.InLow, p.InHigh, p.OutLow, p.OutHigh}
		}
	}
	if len(all) > 0 {
		m.root = all[0]
	}
	return m
}

// clone is a model that shares nothing with m.
func (m *model) clone() *model {
	return modelOf(m.kind, m.most, m.image().Vp)
}

// all are the hits of all things, each behind those that it isn't ahead of.
func (m *model) all(q api.Object) []api.Hit {
	var l []api.Hit
	for _, item := range m.items() {
		h := api.Hit{Id: item.Id, Dist: m.dist(item, api.Item{Obj: q})}
		at := len(l)
		for at > 0 && h.Dist < l[at-1].Dist {
			at--
		}
		l = slices.Insert(l, at, h)
	}
	return l
}

// plain is an image that shares nothing with x, in which lists without anything are alike, nil or not.
func plain(x api.Image) api.Image {
	x.Vp = append([]api.Vp{}, x.Vp...)
	for i := range x.Vp {
		n := &x.Vp[i]
		n.Vantage.Obj.Vec = append([]int32{}, n.Vantage.Obj.Vec...)
		n.Bucket = append([]api.Item{}, n.Bucket...)
		for k := range n.Bucket {
			n.Bucket[k].Obj.Vec = append([]int32{}, n.Bucket[k].Obj.Vec...)
		}
	}
	return x
}

// sameImage tells whether two images have the same parts, and nothing else.
func sameImage(x, y api.Image) bool {
	return reflect.DeepEqual(plain(x), plain(y))
}

// sameItems tells whether two lists have the same things.
func sameItems(x, y []api.Item) bool {
	return slices.EqualFunc(x, y, func(a, b api.Item) bool {
		return a.Id == b.Id && a.Obj.Tag == b.Obj.Tag && a.Obj.Str == b.Obj.Str && slices.Equal(a.Obj.Vec, b.Obj.Vec)
	})
}

// checkState holds what a tree is made of against a model.
func checkState(t *testing.T, x *Tree, m *model) {
	t.Helper()
	if got, want := x.Image(), m.image(); !sameImage(got, want) {
		t.Fatalf("metric %d, most %d: the image is %v, want %v", m.kind, m.most, got.Vp, want.Vp)
	}
	if got, want := x.Items(), m.items(); !sameItems(got, want) {
		t.Fatalf("metric %d, most %d: items are %v, want %v", m.kind, m.most, got, want)
	}
	if x.Len() != len(m.items()) || x.Gone() != m.gone() || x.Depth() != m.depth() {
		t.Fatalf("metric %d, most %d: Len %d, Gone %d, Depth %d; want %d, %d, %d", m.kind, m.most, x.Len(), x.Gone(), x.Depth(), len(m.items()), m.gone(), m.depth())
	}
}

// checkHits holds hits against those that are wanted.
func checkHits(t *testing.T, call string, n int, got, want []api.Hit) {
	t.Helper()
	if !slices.Equal(got, want) {
		t.Fatalf("%s of %d: %v, want %v", call, n, got, want)
	}
}

// within are the hits that are no farther than r.
func within(all []api.Hit, r int) []api.Hit {
	return slices.DeleteFunc(slices.Clone(all), func(h api.Hit) bool { return h.Dist > r })
}

// checkAnswers holds what a tree answers against a model, and how often it asks against how often it may.
func checkAnswers(t *testing.T, x *Tree, meter *metric.Meter, m *model, q api.Object) {
	t.Helper()
	all, most := m.all(q), len(m.items())+m.gone()
	was := meter.Calls()
	asked := func(call string, n int) {
		t.Helper()
		if times := meter.Calls() - was; times > most {
			t.Fatalf("metric %d, most %d: %s of %d asks %d times of %d", m.kind, m.most, call, n, times, most)
		}
		was = meter.Calls()
	}
	for _, r := range radii() {
		got := x.Range(q, r)
		asked("Range", r)
		checkHits(t, "Range", r, got, within(all, r))
	}
	for _, k := range counts(len(all)) {
		got := x.Near(q, k)
		asked("Near", k)
		checkHits(t, "Near", k, got, all[:min(max(k, 0), len(all))])
	}
	walk := x.Walk(q)
	checkHits(t, "Walk", len(all), front.Take(walk, math.MaxInt), all)
	for range 2 {
		if h, ok := walk.Next(); h != (api.Hit{}) || ok || walk.Low() != api.MaxDist {
			t.Fatalf("a walk behind its end: %v, %t, %d", h, ok, walk.Low())
		}
	}
	asked("a walk", len(all))
	checkHits(t, "a walk up to it", 2, front.Upto(x.Walk(q), 2), within(all, 2))
}

// loaded is the tree of an image, which there must be.
func loaded(t *testing.T, meter *metric.Meter, most int, x api.Image) *Tree {
	t.Helper()
	tree, e := Load(meter, most, x)
	if e != api.OK || tree == nil {
		t.Fatalf("Load of %v: %d", x, e)
	}
	return tree
}

// checkErrno holds an error against what is wanted.
func checkErrno(t *testing.T, call string, got, want api.Errno) {
	t.Helper()
	if got != want {
		t.Fatalf("%s: %d, want %d", call, got, want)
	}
}

// pair is a tree and a model to which the same is done.
type pair struct {
	meter *metric.Meter
	x     *Tree
	m     *model
}

func newPair(kind, most int) *pair {
	meter := metric.New(kind)
	return &pair{meter, New(meter, most), newModel(kind, most)}
}

// both does one thing to both, which must have the same error, and use as many numbers of those that were drawn.
func (p *pair) both(t *testing.T, call string, raw []int, onTree, onModel func(d *draws.Source) api.Errno) api.Errno {
	t.Helper()
	d, other := draws.New(raw), draws.New(raw)
	got, want := onTree(d), onModel(other)
	checkErrno(t, call, got, want)
	if d.Used() != other.Used() {
		t.Fatalf("%s uses %d numbers, want %d", call, d.Used(), other.Used())
	}
	return got
}

func (p *pair) insert(t *testing.T, x api.Item, raw ...int) api.Errno {
	t.Helper()
	return p.both(t, "Insert", raw, func(d *draws.Source) api.Errno { return p.x.Insert(x, d) }, func(d *draws.Source) api.Errno { return p.m.insert(x, d) })
}

func (p *pair) delete(t *testing.T, id uint64, raw ...int) api.Errno {
	t.Helper()
	return p.both(t, "Delete", raw, func(d *draws.Source) api.Errno { return p.x.Delete(id, d) }, func(d *draws.Source) api.Errno { return p.m.delete(id, d) })
}

func (p *pair) bulk(t *testing.T, l []api.Item, raw ...int) api.Errno {
	t.Helper()
	return p.both(t, "Bulk", raw, func(d *draws.Source) api.Errno { return p.x.Bulk(l, d) }, func(d *draws.Source) api.Errno { return p.m.bulk(l, d) })
}

// check holds what both are made of against each other, and what they answer of q.
func (p *pair) check(t *testing.T, q ...api.Object) {
	t.Helper()
	checkState(t, p.x, p.m)
	for _, x := range q {
		checkAnswers(t, p.x, p.meter, p.m, x)
	}
}

// reload puts the tree that is loaded of the image in the tree's place.
func (p *pair) reload(t *testing.T) {
	t.Helper()
	p.x = loaded(t, p.meter, p.m.most, p.x.Image())
}
