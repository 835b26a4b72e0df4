package bktree

import (
	"waywiser/api"
	"waywiser/metric"
	"waywiser/object"
)

// Load answers the tree of an image.
func Load(m *metric.Meter, x api.Image) (*Tree, api.Errno) {
	if m == nil {
		return nil, api.ErrNil
	}
	t := New(m)
	// What can be told without asking how far anything is goes first.
	if hasOthers(x) || hasTwice(x.Bk) || tooManyGone(goneOf(x.Bk), len(x.Bk)) || !t.take(x.Bk) {
		return nil, api.ErrCorrupt
	}
	return t, api.OK
}

// hasOthers tells whether an image has anything that no tree is made of.
func hasOthers(x api.Image) bool {
	return len(x.Vp) > 0 || len(x.Mn) > 0 || x.Root != 0 || len(x.Pivots) > 0 || len(x.Rows) > 0
}

// goneOf answers how many of some nodes are gone.
func goneOf(nodes []api.Bk) int {
	gone := 0
	for _, n := range nodes {
		if n.Gone {
			gone++
		}
	}
	return gone
}

// hasTwice tells whether two nodes that aren't gone have one number.
func hasTwice(nodes []api.Bk) bool {
	seen := make(map[uint64]struct{}, len(nodes))
	for _, n := range nodes {
		if n.Gone {
			continue
		}
		if _, twice := seen[n.Item.Id]; twice {
			return true
		}
		seen[n.Item.Id] = struct{}{}
	}
	return false
}

// take takes the nodes of an image, if each hangs just where its thing has to hang by those ahead of it: then all above it are as far from it as is told, and no other kid hangs at its hook.
func (t *Tree) take(nodes []api.Bk) bool {
	for _, n := range nodes {
		n.Item.Obj = object.Clone(n.Item.Obj)
		if t.seek(n.Item.Obj) != (hook{parent: n.Parent, edge: n.Edge}) {
			return false
		}
		t.add(n)
	}
	return true
}
