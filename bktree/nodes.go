package bktree

import (
	"waywiser/api"
	"waywiser/bound"
	"waywiser/front"
	"waywiser/metric"
	"waywiser/object"
)

// node is a node, and its kids, as they came.
type node struct {
	api.Bk
	kids []int
}

// hook is where a node hangs: at which one, and how far from it. No two nodes hang at one hook.
type hook struct {
	parent, edge int
}

// asked is a node whose distance was asked for, and those of its kids that are still to be gone through.
type asked struct {
	far  int
	kids []int
}

// tooManyGone tells whether a tree has to be made anew.
func tooManyGone(gone, nodes int) bool {
	return gone > nodes-gone
}

// bare tells whether there is no node, and so nothing to ask.
func (t *Tree) bare() bool {
	return t == nil || len(t.nodes) == 0
}

// has tells whether a number is there.
func (t *Tree) has(id uint64) bool {
	_, there := t.places[id]
	return there
}

// put puts in a thing whose number isn't there.
func (t *Tree) put(x api.Item) {
	x.Obj = object.Clone(x.Obj)
	t.hang(x)
}

// hang takes a thing as it is, as the last node.
func (t *Tree) hang(x api.Item) {
	free := t.seek(x.Obj)
	t.add(api.Bk{Item: x, Parent: free.parent, Edge: free.edge})
}

// seek answers the hook at which a thing has to hang. The root hangs at one, too.
func (t *Tree) seek(x api.Object) hook {
	at := hook{parent: -1}
	for {
		taken, is := t.hung[at]
		if !is {
			return at
		}
		at = hook{parent: taken, edge: t.meter.Dist(x, t.nodes[taken].Item.Obj)}
	}
}

// add takes a node as it is.
func (t *Tree) add(n api.Bk) {
	at := len(t.nodes)
	t.nodes = append(t.nodes, node{Bk: n})
	t.hung[hook{parent: n.Parent, edge: n.Edge}] = at
	if n.Parent >= 0 {
		parent := &t.nodes[n.Parent]
		parent.kids = append(parent.kids, at)
	}
	if !n.Gone {
		t.places[n.Item.Id] = at
	}
}

// renew puts all things in anew, so that no node is gone.
func (t *Tree) renew() {
	old := t.nodes
	*t = *New(t.meter)
	for _, n := range old {
		if !n.Gone {
			t.hang(n.Item)
		}
	}
}

// walk answers a walk that keeps q.
func (t *Tree) walk(q api.Object) *front.Walk {
	if t.bare() {
		return front.New(nil)
	}
	// Kids that come later are none of these nodes: the walk then goes on without them.
	nodes, meter := t.nodes, t.meter
	open := func(at int) []api.Entry { return behind(nodes, at, meter, q) }
	return front.New(open, api.Entry{Node: 0})
}

// behind answers what stands behind a node: its thing, and its kids, each no nearer than the triangle tells.
func behind(nodes []node, at int, meter *metric.Meter, q api.Object) []api.Entry {
	n := nodes[at]
	far := meter.Dist(q, n.Item.Obj)
	var l []api.Entry
	if !n.Gone {
		l = append(l, api.Entry{Low: far, Node: -1, Id: n.Item.Id})
	}
	for _, kid := range n.kids {
		if kid < len(nodes) {
			l = append(l, api.Entry{Low: bound.Apart(far, nodes[kid].Edge), Node: kid})
		}
	}
	return l
}
