package direct

// The sides of a node: all numbers on its low side are below its own, all on its high side above.
const (
	low  = 0
	high = 1
)

// A side is too heavy if it weighs more than most times the other one. Then its heavier part must come up; that is
// its inner one if that weighs at least inner times the outer one. With these two, one node that came or went is
// made good, at each node above it, by one or two turns: so a walk down stays short in whatever order numbers come
// and go.
const (
	most  = 3
	inner = 2
)

// node is a number with its slot, and how many there are from it on down. Of a nil one there are none.
type node struct {
	id   uint64
	slot int
	size int
	kids [2]*node
}

// len answers how many numbers there are from a node on down.
func (n *node) len() int {
	if n == nil {
		return 0
	}
	return n.size
}

// weight is one more than there are, so that nothing weighs something, too.
func (n *node) weight() int { return n.len() + 1 }

// side answers on which side another number than the node's own is.
func (n *node) side(id uint64) int {
	if id < n.id {
		return low
	}
	return high
}

// ids puts all numbers from a node on down behind a list, rising.
func (n *node) ids(l []uint64) []uint64 {
	if n == nil {
		return l
	}
	l = n.kids[low].ids(l)
	l = append(l, n.id)
	return n.kids[high].ids(l)
}

// with puts a number in that isn't there, and answers the node that is on top then.
func (n *node) with(id uint64, slot int) *node {
	if n == nil {
		return &node{id: id, slot: slot, size: 1}
	}
	s := n.side(id)
	n.kids[s] = n.kids[s].with(id, slot)
	return n.even()
}

// without takes a number out that is there, and answers the node that is on top then.
func (n *node) without(id uint64) *node {
	if id != n.id {
		s := n.side(id)
		n.kids[s] = n.kids[s].without(id)
		return n.even()
	}
	for s := range n.kids {
		if n.kids[s] == nil {
			return n.kids[1-s]
		}
	}
	next := n.kids[high].least()
	n.id, n.slot = next.id, next.slot
	n.kids[high] = n.kids[high].without(next.id)
	return n.even()
}

// least answers the node of the least number from a node on down.
func (n *node) least() *node {
	for n.kids[low] != nil {
		n = n.kids[low]
	}
	return n
}

// even sees to it that no side is too heavy, where one below has one node more or less. It answers the node on top.
func (n *node) even() *node {
	n.count()
	for s, heavy := range n.kids {
		if heavy.weight() <= most*n.kids[1-s].weight() {
			continue
		}
		if heavy.kids[1-s].weight() >= inner*heavy.kids[s].weight() {
			n.kids[s] = heavy.turn(1 - s)
		}
		return n.turn(s)
	}
	return n
}

// turn lifts the kid on a side above its node, and answers that kid.
func (n *node) turn(s int) *node {
	kid := n.kids[s]
	n.kids[s], kid.kids[1-s] = kid.kids[1-s], n
	n.count()
	kid.count()
	return kid
}

// count counts a node's numbers by those of its kids.
func (n *node) count() {
	n.size = n.kids[low].len() + n.kids[high].len() + 1
}
