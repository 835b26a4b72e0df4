package vptree

import (
	"waywiser/api"
	"waywiser/metric"
	"waywiser/object"
)

// Load answers the tree of an image.
func Load(m *metric.Meter, most int, x api.Image) (*Tree, api.Errno) {
	if m == nil {
		return nil, api.ErrNil
	}
	t := New(m, most)
	// What can be told without asking how far anything is goes first.
	if hasOthers(x) || !isTree(x.Vp) || !t.take(x.Vp) || t.tooManyGone() || !t.areBetween() {
		return nil, api.ErrCorrupt
	}
	return t, api.OK
}

// hasOthers tells whether an image has anything that no tree is made of.
func hasOthers(x api.Image) bool {
	return len(x.Bk) > 0 || len(x.Mn) > 0 || x.Root != 0 || len(x.Pivots) > 0 || len(x.Rows) > 0
}

// isTree tells whether nodes hang together as those of a tree do.
func isTree(nodes []api.Vp) bool {
	for at, n := range nodes {
		is := hasKidsAlone
		if n.Leaf {
			is = hasBucketAlone
		}
		if !hangs(nodes, at) || !is(nodes, at) {
			return false
		}
	}
	return true
}

// hangs tells whether a node is the root, or a kid of its parent, which is ahead of it.
func hangs(nodes []api.Vp, at int) bool {
	parent := nodes[at].Parent
	if at == 0 {
		return parent == -1
	}
	if parent < 0 || parent >= at {
		return false
	}
	return nodes[parent].In == at || nodes[parent].Out == at
}

// hasBucketAlone tells whether a leaf has nothing that only another node has.
func hasBucketAlone(nodes []api.Vp, at int) bool {
	n := nodes[at]
	ends := [4]int{n.InLow, n.InHigh, n.OutLow, n.OutHigh}
	return n.Vantage.Id == 0 && object.Same(n.Vantage.Obj, api.Object{}) && !n.Gone && n.In == 0 && n.Out == 0 && ends == [4]int{}
}

// hasKidsAlone tells whether a node that is no leaf has two kids behind it, and no Bucket. Both kids have it as their parent, so that no other node has them, too.
func hasKidsAlone(nodes []api.Vp, at int) bool {
	in, out := nodes[at].In, nodes[at].Out
	if in == out || min(in, out) <= at || max(in, out) >= len(nodes) {
		return false
	}
	return nodes[in].Parent == at && nodes[out].Parent == at && len(nodes[at].Bucket) == 0
}

// take takes the nodes of an image, if no leaf has too many things, and no number is there twice.
func (t *Tree) take(nodes []api.Vp) bool {
	for at, n := range nodes {
		if len(n.Bucket) > t.most {
			return false
		}
		n = ownNode(n)
		for _, x := range there(&n) {
			if t.has(x.Id) {
				return false
			}
			t.places[x.Id] = at
		}
		if n.Gone {
			t.gone++
		}
		t.nodes = append(t.nodes, n)
	}
	return true
}

// areBetween tells whether all things that aren't gone are as far from all vantages above them as the ends tell.
func (t *Tree) areBetween() bool {
	for at := range t.nodes {
		for _, x := range there(&t.nodes[at]) {
			if !t.isBetween(x.Obj, at) {
				return false
			}
		}
	}
	return true
}

// isBetween tells that of one thing of a node.
func (t *Tree) isBetween(x api.Object, at int) bool {
	for t.nodes[at].Parent >= 0 {
		above := &t.nodes[t.nodes[at].Parent]
		low, high := above.OutLow, above.OutHigh
		if above.In == at {
			low, high = above.InLow, above.InHigh
		}
		if far := t.meter.Dist(x, above.Vantage.Obj); far < low || far > high {
			return false
		}
		at = t.nodes[at].Parent
	}
	return true
}
