package vptree

import (
	"waywiser/api"
	"waywiser/bound"
	"waywiser/draws"
	"waywiser/front"
	"waywiser/metric"
	"waywiser/object"
	"waywiser/split"
)

// own answers a thing in memory of its own.
func own(x api.Item) api.Item {
	x.Obj = object.Clone(x.Obj)
	return x
}

// ownAll answers things in memory of their own.
func ownAll(l []api.Item) []api.Item {
	copied := make([]api.Item, 0, len(l))
	for _, x := range l {
		copied = append(copied, own(x))
	}
	return copied
}

// ownNode answers a node in memory of its own.
func ownNode(n api.Vp) api.Vp {
	n.Vantage, n.Bucket = own(n.Vantage), ownAll(n.Bucket)
	return n
}

// there answers those of a node's own things that aren't gone.
func there(n *api.Vp) []api.Item {
	switch {
	case n.Leaf:
		return n.Bucket
	case n.Gone:
		return nil
	}
	return []api.Item{n.Vantage}
}

// bare tells whether there is no node, and so nothing to ask.
func (t *Tree) bare() bool {
	return t == nil || len(t.nodes) == 0
}

// has tells whether a number is there.
func (t *Tree) has(id uint64) bool {
	_, is := t.places[id]
	return is
}

// tooManyGone tells whether the tree has to be built anew.
func (t *Tree) tooManyGone() bool {
	// As each vantage has two kids, there is one leaf more than there are vantages.
	vantages := len(t.nodes) / 2
	return t.gone > vantages-t.gone
}

// renew builds the tree of things alone, which are its own.
func (t *Tree) renew(l []api.Item, d *draws.Source) {
	t.nodes, t.places, t.gone = nil, make(map[uint64]int, len(l)), 0
	if len(l) > 0 {
		t.nodes = []api.Vp{{Parent: -1}}
		t.build(0, l, d)
	}
}

// build makes what is Built of things, which are the tree's own, in the place of a node that has nothing below it.
func (t *Tree) build(at int, l []api.Item, d *draws.Source) {
	parent := t.nodes[at].Parent
	if len(l) <= t.most {
		t.nodes[at] = api.Vp{Leaf: true, Bucket: l, Parent: parent}
		for _, x := range l {
			t.places[x.Id] = at
		}
		return
	}
	n, nearer, others := t.halve(l, d.Pick(len(l)))
	n.Parent, n.In, n.Out = parent, len(t.nodes), len(t.nodes)+1
	t.nodes[at] = n
	t.nodes = append(t.nodes, api.Vp{Parent: at}, api.Vp{Parent: at})
	t.places[n.Vantage.Id] = at
	t.build(n.In, nearer, d)
	t.build(n.Out, others, d)
}

// halve answers a node whose vantage stands at a place of some things, and which of the others have to be below In, and below Out.
func (t *Tree) halve(l []api.Item, at int) (api.Vp, []api.Item, []api.Item) {
	n := api.Vp{Vantage: l[at]}
	fars := make([]split.Far, 0, len(l)-1)
	for place, x := range l {
		if place != at {
			fars = append(fars, split.Far{At: place, Dist: t.meter.Dist(n.Vantage.Obj, x.Obj)})
		}
	}
	nearer, others := split.Halve(fars, len(fars)/2)
	n.InLow, n.InHigh = split.Bounds(nearer)
	n.OutLow, n.OutHigh = split.Bounds(others)
	return n, pick(l, nearer), pick(l, others)
}

// pick answers the things at the places of fars.
func pick(l []api.Item, fars []split.Far) []api.Item {
	picked := make([]api.Item, 0, len(fars))
	for _, far := range fars {
		picked = append(picked, l[far.At])
	}
	return picked
}

// put puts in a thing that is the tree's own, and whose number isn't there.
func (t *Tree) put(x api.Item, d *draws.Source) {
	if len(t.nodes) == 0 {
		t.nodes = []api.Vp{{Leaf: true, Parent: -1}}
	}
	at := t.sink(x.Obj)
	n := &t.nodes[at]
	n.Bucket = append(n.Bucket, x)
	t.places[x.Id] = at
	if len(n.Bucket) > t.most {
		t.build(at, n.Bucket, d)
	}
}

// sink answers the leaf in which a thing has to be, and widens the ends of all nodes above, as it will be below them.
func (t *Tree) sink(x api.Object) int {
	at := 0
	for !t.nodes[at].Leaf {
		n := &t.nodes[at]
		far := t.meter.Dist(x, n.Vantage.Obj)
		if isNear(n, far) {
			n.InLow, n.InHigh = bound.Widen(n.InLow, n.InHigh, far)
			at = n.In
		} else {
			n.OutLow, n.OutHigh = bound.Widen(n.OutLow, n.OutHigh, far)
			at = n.Out
		}
	}
	return at
}

// isNear tells whether In is the next one for a thing that is so far from a vantage.
func isNear(n *api.Vp, far int) bool {
	switch {
	case far <= n.InHigh:
		return true
	case far >= n.OutLow:
		return false
	}
	// Where nothing is below a kid its ends may be any numbers: how far they are from here may be above the greatest int.
	return uint64(far)-uint64(n.InHigh) <= uint64(n.OutLow)-uint64(far)
}

// lowIn answers how near things below In may be to one that is so far from the vantage.
func lowIn(n *api.Vp, far int) int {
	return bound.Ring(far, n.InLow, n.InHigh)
}

// lowOut answers how near things below Out may be to one that is so far from the vantage.
func lowOut(n *api.Vp, far int) int {
	return bound.Ring(far, n.OutLow, n.OutHigh)
}

// seen answers the hits of those of a bucket that aren't too far.
func (t *Tree) seen(bucket []api.Item, q api.Object, r int) []api.Hit {
	var l []api.Hit
	for _, x := range bucket {
		if far, ok := t.meter.Upto(q, x.Obj, r); ok {
			l = append(l, api.Hit{Id: x.Id, Dist: far})
		}
	}
	return l
}

// walk answers a walk that keeps q.
func (t *Tree) walk(q api.Object) *front.Walk {
	if t.bare() {
		return front.New(nil)
	}
	// Kids that come later are none of these nodes: the walk then goes on without them.
	nodes, meter := t.nodes, t.meter
	open := func(at int) []api.Entry { return behind(nodes, at, meter, q) }
	return front.New(open, api.Entry{Node: 0})
}

// behind answers what stands behind a node: its things, each as far as it is, and its kids, each no nearer than the triangle tells.
func behind(nodes []api.Vp, at int, meter *metric.Meter, q api.Object) []api.Entry {
	n := &nodes[at]
	var l []api.Entry
	if n.Leaf {
		for _, x := range n.Bucket {
			l = append(l, api.Entry{Low: meter.Dist(q, x.Obj), Node: -1, Id: x.Id})
		}
		return l
	}
	far := meter.Dist(q, n.Vantage.Obj)
	if !n.Gone {
		l = append(l, api.Entry{Low: far, Node: -1, Id: n.Vantage.Id})
	}
	if n.In < len(nodes) {
		l = append(l, api.Entry{Low: lowIn(n, far), Node: n.In})
	}
	if n.Out < len(nodes) {
		l = append(l, api.Entry{Low: lowOut(n, far), Node: n.Out})
	}
	return l
}
