package front

import (
	"math"
	"reflect"
	"slices"
	"testing"

	"waywiser/api"
)

func node(low, n int) api.Entry {
	return api.Entry{Low: low, Node: n}
}

func thing(low int, id uint64) api.Entry {
	return api.Entry{Low: low, Node: -1, Id: id}
}

func hit(id uint64, dist int) api.Hit {
	return api.Hit{Id: id, Dist: dist}
}

// ends are where things may be, or not: numbers at the ends of all, and what isn't a distance, too.
func ends() []int {
	return []int{math.MinInt, math.MinInt + 1, -2, -1, 0, 1, 2, api.MaxDist - 1, api.MaxDist, api.MaxDist + 1, math.MaxInt - 1, math.MaxInt}
}

// nodes has what stands behind each node, by its number; behind another one nothing stands. It notes which ones are opened.
type nodes struct {
	behind map[int][]api.Entry
	opened []int
}

func (l *nodes) open(n int) []api.Entry {
	l.opened = append(l.opened, n)
	return l.behind[n]
}

// ahead tells by the words of the document whether an entry is ahead of another one.
func ahead(a, b api.Entry) bool {
	if a.Low != b.Low {
		return a.Low < b.Low
	}
	if a.Node >= 0 && b.Node >= 0 {
		return a.Node < b.Node
	}
	if a.Node < 0 && b.Node < 0 {
		return a.Id < b.Id
	}
	return a.Node >= 0
}

// model is a walk in the words of the document: the first entry is sought among all of a list.
type model struct {
	nodes
	frontier []api.Entry
}

// place is where the first entry stands; -1, if there is none.
func (m *model) place() int {
	at := -1
	for i, e := range m.frontier {
		if at < 0 || ahead(e, m.frontier[at]) {
			at = i
		}
	}
	return at
}

func (m *model) low() int {
	if at := m.place(); at >= 0 {
		return m.frontier[at].Low
	}
	return api.MaxDist
}

// upto is what Next tells; nothing, as soon as the first entry is above r.
func (m *model) upto(r int) (api.Hit, bool) {
	for len(m.frontier) > 0 {
		at := m.place()
		first := m.frontier[at]
		if first.Low > r {
			break
		}
		m.frontier = slices.Delete(m.frontier, at, at+1)
		if first.Node < 0 {
			return hit(first.Id, first.Low), true
		}
		for _, e := range m.open(first.Node) {
			if e.Low < first.Low {
				e.Low = first.Low
			}
			m.frontier = append(m.frontier, e)
		}
	}
	return api.Hit{}, false
}

// all is what the model tells, not above r, k times at most.
func (m *model) all(r, k int) []api.Hit {
	var l []api.Hit
	for len(l) < k {
		h, ok := m.upto(r)
		if !ok {
			break
		}
		l = append(l, h)
	}
	return l
}

// both are a walk and its model, of the same nodes and entries, and what the walk opens.
func both(behind map[int][]api.Entry, first ...api.Entry) (*Walk, *nodes, *model) {
	l := &nodes{behind: behind}
	return New(l.open, first...), l, &model{nodes: nodes{behind: behind}, frontier: slices.Clone(first)}
}

// checkAt holds what a walk is now against its model.
func checkAt(t *testing.T, w *Walk, l *nodes, m *model) {
	t.Helper()
	if w.Low() != m.low() {
		t.Fatalf("Low %d, want %d", w.Low(), m.low())
	}
	if !slices.Equal(l.opened, m.opened) || w.Opened() != len(m.opened) {
		t.Fatalf("opens %v, %d in all, want %v", l.opened, w.Opened(), m.opened)
	}
}

// checkNext goes from thing to thing, till nothing is left, and on.
func checkNext(t *testing.T, behind map[int][]api.Entry, first ...api.Entry) {
	t.Helper()
	w, l, m := both(behind, first...)
	checkAt(t, w, l, m)
	for done := 0; done < 3; {
		want, is := m.upto(math.MaxInt)
		if h, ok := w.Next(); h != want || ok != is {
			t.Fatalf("of %v, behind which are %v: %v, %t, want %v, %t", first, behind, h, ok, want, is)
		}
		checkAt(t, w, l, m)
		if !is {
			done++
		}
	}
}

// checkTake takes some, and all that are left, for each number.
func checkTake(t *testing.T, behind map[int][]api.Entry, first ...api.Entry) {
	t.Helper()
	for _, k := range []int{math.MinInt, -1, 0, 1, 2, 3, 5, 9, math.MaxInt} {
		w, l, m := both(behind, first...)
		for range 2 {
			want := m.all(math.MaxInt, k)
			if got := Take(w, k); !slices.Equal(got, want) {
				t.Fatalf("Take of %d, of %v, behind which are %v: %v, want %v", k, first, behind, got, want)
			}
			checkAt(t, w, l, m)
		}
		want := m.all(math.MaxInt, math.MaxInt)
		if got := Take(w, math.MaxInt); !slices.Equal(got, want) {
			t.Fatalf("what is left behind Take of %d: %v, want %v", k, got, want)
		}
		checkAt(t, w, l, m)
	}
}

// checkUpto asks how far it is, for each number, and for all that are left.
func checkUpto(t *testing.T, behind map[int][]api.Entry, first ...api.Entry) {
	t.Helper()
	for _, r := range append(ends(), 3, 4, 5, 7, 11) {
		w, l, m := both(behind, first...)
		for range 2 {
			want := m.all(r, math.MaxInt)
			if got := Upto(w, r); !slices.Equal(got, want) {
				t.Fatalf("Upto of %d, of %v, behind which are %v: %v, want %v", r, first, behind, got, want)
			}
			checkAt(t, w, l, m)
		}
		want := m.all(math.MaxInt, math.MaxInt)
		if got := Upto(w, math.MaxInt); !slices.Equal(got, want) {
			t.Fatalf("what is left behind Upto of %d: %v, want %v", r, got, want)
		}
		checkAt(t, w, l, m)
	}
}

func checkAll(t *testing.T, behind map[int][]api.Entry, first ...api.Entry) {
	t.Helper()
	checkNext(t, behind, first...)
	checkTake(t, behind, first...)
	checkUpto(t, behind, first...)
}

// few are entries of all sorts, as far and not as far as each other.
func few() []api.Entry {
	return []api.Entry{node(0, 0), node(1, 0), node(1, 1), node(2, 1), thing(0, 5), thing(1, 5), thing(1, 2), thing(2, 0)}
}

// lists are all lists of n of some entries, and the shorter ones.
func lists(n int, of []api.Entry) [][]api.Entry {
	l := [][]api.Entry{nil}
	if n == 0 {
		return l
	}
	for _, shorter := range lists(n-1, of) {
		for _, e := range of {
			if len(shorter) == n-1 {
				l = append(l, append(slices.Clone(shorter), e))
			}
		}
		if len(shorter) > 0 {
			l = append(l, shorter)
		}
	}
	return l
}

// below answers numbers from 0 on, in no order, the same ones for each seed.
func below(seed uint64) func(n int) int {
	return func(n int) int {
		seed = seed*6364136223846793005 + 1442695040888963407
		return int(seed>>33) % n
	}
}

// mixed are entries in no order, the same ones for each seed. Behind a node stand things, and nodes of greater numbers.
func mixed(seed uint64) (map[int][]api.Entry, []api.Entry) {
	next := below(seed)
	const most = 12
	some := func(from, n int) []api.Entry {
		var l []api.Entry
		for range n {
			if at := from + next(most); at < most {
				l = append(l, api.Entry{Low: next(10) - 1, Node: at, Id: uint64(next(3))})
			} else {
				l = append(l, api.Entry{Low: next(10) - 1, Node: -1 - next(3), Id: uint64(next(9))})
			}
		}
		return l
	}
	behind := map[int][]api.Entry{}
	for n := range most {
		behind[n] = some(n+1, next(3))
	}
	return behind, some(3, next(6))
}

func TestP201Example(t *testing.T) {
	for _, l := range [][]api.Entry{{thing(3, 7), thing(3, 2)}, {thing(3, 2), thing(3, 7)}} {
		w := New(nil, l...)
		for _, want := range []api.Hit{hit(2, 3), hit(7, 3)} {
			if h, ok := w.Next(); h != want || !ok {
				t.Error(h, ok)
			}
		}
		if h, ok := w.Next(); h != hit(0, 0) || ok || w.Low() != api.MaxDist || w.Opened() != 0 {
			t.Error(h, ok, w.Low(), w.Opened())
		}
	}
}

func TestP201Told(t *testing.T) {
	l := &nodes{behind: map[int][]api.Entry{4: {thing(3, 9), thing(2, 8), node(6, 5), node(3, 6)}, 5: {thing(4, 7), thing(9, 1)}}}
	w := New(l.open, thing(3, 5), node(3, 4))
	for _, want := range []struct {
		low    int
		hit    api.Hit
		ok     bool
		opened []int
	}{
		// What is lower than its node is as far as that: 8 at 3, and 7 at 6. Node 6 has nothing.
		{3, hit(5, 3), true, []int{4, 6}},
		{3, hit(8, 3), true, []int{4, 6}},
		{3, hit(9, 3), true, []int{4, 6}},
		{6, hit(7, 6), true, []int{4, 6, 5}},
		{9, hit(1, 9), true, []int{4, 6, 5}},
		{api.MaxDist, hit(0, 0), false, []int{4, 6, 5}},
	} {
		if low := w.Low(); low != want.low {
			t.Errorf("Low %d, want %d", low, want.low)
		}
		if h, ok := w.Next(); h != want.hit || ok != want.ok {
			t.Errorf("%v, %t, want %v, %t", h, ok, want.hit, want.ok)
		}
		if !slices.Equal(l.opened, want.opened) || w.Opened() != len(want.opened) {
			t.Errorf("opened %v, %d in all, want %v", l.opened, w.Opened(), want.opened)
		}
	}
}

// Of no entries nothing is left, however often that is asked.
func TestP201NothingLeft(t *testing.T) {
	for _, w := range []*Walk{New(nil), New(nil, []api.Entry{}...), New(func(int) []api.Entry { t.Error("opened"); return nil })} {
		for range 3 {
			if h, ok := w.Next(); h != (api.Hit{}) || ok || w.Low() != api.MaxDist || w.Opened() != 0 {
				t.Error(h, ok, w.Low(), w.Opened())
			}
		}
	}
	// Nodes behind which there is nothing go, and are opened.
	checkAll(t, nil, node(1, 3), node(0, 7), node(math.MaxInt, 3), node(1, 3))
	checkAll(t, map[int][]api.Entry{1: {node(0, 2), node(5, 2)}, 2: {}}, node(1, 1))
}

// Of each two entries, whichever is handed in first: what goes first, and what is told or opened then.
func TestP201TheOrder(t *testing.T) {
	var all []api.Entry
	for _, low := range []int{math.MinInt, -1, 0, 1, api.MaxDist, math.MaxInt} {
		for _, n := range []int{math.MinInt, -2, -1, 0, 1, math.MaxInt} {
			for _, id := range []uint64{0, 1, 1<<63 - 1, 1 << 63, math.MaxUint64} {
				all = append(all, api.Entry{Low: low, Node: n, Id: id})
			}
		}
	}
	for _, a := range all {
		for _, b := range all {
			checkNext(t, nil, a, b)
		}
	}
}

// Whatever has a Node below 0 is a thing: which number that is plays no part, nor does an Id of a node.
func TestP201ThingsAndNodes(t *testing.T) {
	w := New(func(int) []api.Entry { t.Error("opened"); return nil }, api.Entry{Low: 1, Node: -1, Id: 5}, api.Entry{Low: 1, Node: math.MinInt, Id: 9}, api.Entry{Low: 1, Node: -7, Id: 7})
	if l := Take(w, 9); !slices.Equal(l, []api.Hit{hit(5, 1), hit(7, 1), hit(9, 1)}) {
		t.Error(l)
	}
	l := &nodes{}
	w = New(l.open, api.Entry{Low: 1, Node: 2, Id: 1}, api.Entry{Low: 1, Node: 0, Id: 8}, api.Entry{Low: 1, Node: 1, Id: 0}, api.Entry{Node: 3, Id: 9})
	if h, ok := w.Next(); h != (api.Hit{}) || ok || !slices.Equal(l.opened, []int{3, 0, 1, 2}) {
		t.Error(h, ok, l.opened)
	}
}

// Nothing is opened ahead of time: neither by New and Low, nor behind the thing that is told.
func TestP201OpenedLate(t *testing.T) {
	l := &nodes{behind: map[int][]api.Entry{0: {thing(4, 1), node(4, 1)}, 1: {thing(8, 2)}}}
	w := New(l.open, node(0, 0), node(5, 2))
	for range 3 {
		if w.Low() != 0 || w.Opened() != 0 || len(l.opened) > 0 {
			t.Error(w.Low(), w.Opened(), l.opened)
		}
	}
	// 1 is at 4, and nodes that are as far are opened ahead of it; that at 5 isn't.
	if h, ok := w.Next(); h != hit(1, 4) || !ok || !slices.Equal(l.opened, []int{0, 1}) || w.Low() != 5 {
		t.Error(h, ok, l.opened, w.Low())
	}
	if h, ok := w.Next(); h != hit(2, 8) || !ok || !slices.Equal(l.opened, []int{0, 1, 2}) {
		t.Error(h, ok, l.opened)
	}
}

// What stands behind a node is no lower than it was, through several nodes; what is higher stays so.
func TestP201Raised(t *testing.T) {
	behind := map[int][]api.Entry{0: {node(2, 1), thing(math.MinInt, 1)}, 1: {node(9, 2), thing(6, 2), thing(7, 3), thing(8, 4)}, 2: {node(-1, 3), thing(0, 5), thing(math.MaxInt, 6)}, 3: {thing(3, 0)}}
	checkAll(t, behind, node(7, 0))
	w, _, _ := both(behind, node(7, 0))
	want := []api.Hit{hit(1, 7), hit(2, 7), hit(3, 7), hit(4, 8), hit(0, 9), hit(5, 9), hit(6, math.MaxInt)}
	if l := Take(w, 99); !slices.Equal(l, want) {
		t.Errorf("%v, want %v", l, want)
	}
	for _, low := range ends() {
		for _, inner := range ends() {
			checkAll(t, map[int][]api.Entry{0: {node(inner, 1)}, 1: {thing(low, 1), thing(inner, 2)}}, node(low, 0), thing(inner, 3), thing(low, 4))
		}
	}
}

// A node that stands there twice is opened twice, and a thing is told as often as it stands there.
func TestP201Twice(t *testing.T) {
	l := &nodes{behind: map[int][]api.Entry{0: {thing(1, 4), thing(1, 4), node(3, 1)}, 1: {thing(0, 4)}}}
	w := New(l.open, node(0, 0), node(0, 0), node(2, 0), thing(1, 4))
	want := []api.Hit{hit(4, 1), hit(4, 1), hit(4, 1), hit(4, 1), hit(4, 1), hit(4, 2), hit(4, 2), hit(4, 3), hit(4, 3), hit(4, 3)}
	if got := Take(w, 99); !slices.Equal(got, want) || !slices.Equal(l.opened, []int{0, 0, 0, 1, 1, 1}) || w.Opened() != 6 {
		t.Error(got, l.opened, w.Opened())
	}
	checkAll(t, l.behind, node(0, 0), node(0, 0), node(2, 0), thing(1, 4))
}

// What open tells may be another thing each time: what it tells of a node that comes again counts, too.
func TestP201OpenTellsAnew(t *testing.T) {
	asked := 0
	w := New(func(n int) []api.Entry {
		asked++
		if asked == 1000 {
			return []api.Entry{thing(0, 3)}
		}
		return []api.Entry{node(0, n)}
	}, node(5, 6))
	if h, ok := w.Next(); h != hit(3, 5) || !ok || w.Opened() != 1000 || w.Low() != api.MaxDist {
		t.Error(h, ok, w.Opened(), w.Low())
	}
}

// All short lists of entries, behind nodes, too.
func TestP201AllShort(t *testing.T) {
	for _, first := range lists(3, few()) {
		checkNext(t, map[int][]api.Entry{0: {thing(1, 1), node(2, 1)}, 1: {thing(0, 7)}}, first...)
	}
	inner := []api.Entry{node(0, 1), node(1, 1), thing(0, 3), thing(1, 1), thing(2, 3)}
	for _, behind := range lists(2, inner) {
		for _, last := range lists(2, inner[2:]) {
			for _, first := range lists(2, few()[:6]) {
				checkNext(t, map[int][]api.Entry{0: behind, 1: last}, first...)
			}
		}
	}
}

func TestP201Mixed(t *testing.T) {
	for seed := range uint64(3000) {
		behind, first := mixed(seed)
		checkNext(t, behind, first...)
	}
}

func TestP201WalksAreApart(t *testing.T) {
	l := &nodes{behind: map[int][]api.Entry{0: {thing(1, 4), thing(2, 5)}}}
	a, b := New(l.open, node(0, 0)), New(l.open, node(0, 0), thing(1, 1))
	a.Next()
	if a.Low() != 2 || a.Opened() != 1 || b.Low() != 0 || b.Opened() != 0 {
		t.Error(a.Low(), a.Opened(), b.Low(), b.Opened())
	}
	if got := Take(b, 9); !slices.Equal(got, []api.Hit{hit(1, 1), hit(4, 1), hit(5, 2)}) {
		t.Error(got)
	}
	if got := Take(a, 9); !slices.Equal(got, []api.Hit{hit(5, 2)}) {
		t.Error(got)
	}
}

// As many things as may be in an index, by themselves, all behind one node, and each behind a node of its own.
func TestP201OfMany(t *testing.T) {
	const n = api.MaxObjects
	things := make([]api.Entry, n)
	for i := range things {
		things[i] = thing((i*7919)%n/2, uint64(i*7919%n))
	}
	check := func(what string, w *Walk, opened int) {
		for i := range n {
			if h, ok := w.Next(); h != hit(uint64(i), i/2) || !ok {
				t.Fatalf("%s: the hit no. %d is %v, %t", what, i, h, ok)
			}
		}
		if h, ok := w.Next(); h != (api.Hit{}) || ok || w.Opened() != opened || w.Low() != api.MaxDist {
			t.Fatalf("%s: %v, %t, %d, %d", what, h, ok, w.Opened(), w.Low())
		}
	}
	check("by themselves", New(nil, things...), 0)
	check("behind one", New(func(int) []api.Entry { return things }, node(0, 0)), 1)
	check("in a chain", New(func(i int) []api.Entry {
		if i == n-1 {
			return []api.Entry{thing(i/2, uint64(i))}
		}
		return []api.Entry{thing(0, uint64(i)), node((i+1)/2, i+1)}
	}, node(0, 0)), n)
}

func TestP202Take(t *testing.T) {
	l := &nodes{behind: map[int][]api.Entry{0: {thing(1, 4), node(2, 1)}, 1: {thing(2, 3), thing(6, 1)}}}
	w := New(l.open, node(0, 0), thing(2, 5))
	for _, k := range []int{0, -1, math.MinInt} {
		if got := Take(w, k); len(got) > 0 || w.Opened() != 0 || w.Low() != 0 {
			t.Error(got, w.Opened(), w.Low())
		}
	}
	if got := Take(w, 1); !slices.Equal(got, []api.Hit{hit(4, 1)}) || w.Opened() != 1 || w.Low() != 2 {
		t.Error(got, w.Opened(), w.Low())
	}
	if got := Take(w, 2); !slices.Equal(got, []api.Hit{hit(3, 2), hit(5, 2)}) || w.Opened() != 2 || w.Low() != 6 {
		t.Error(got, w.Opened(), w.Low())
	}
	for _, want := range [][]api.Hit{{hit(1, 6)}, nil, nil} {
		if got := Take(w, math.MaxInt); !slices.Equal(got, want) || w.Opened() != 2 || w.Low() != api.MaxDist {
			t.Error(got, w.Opened(), w.Low())
		}
	}
}

func TestP202Upto(t *testing.T) {
	l := &nodes{behind: map[int][]api.Entry{0: {thing(1, 4), node(3, 1)}, 1: {thing(3, 3), thing(6, 1)}}}
	w := New(l.open, node(1, 0), thing(3, 5), node(7, 2))
	for _, want := range []struct {
		r      int
		l      []api.Hit
		opened int
		low    int
	}{
		{math.MinInt, nil, 0, 1},
		{-1, nil, 0, 1},
		{0, nil, 0, 1},
		{1, []api.Hit{hit(4, 1)}, 1, 3},
		{2, nil, 1, 3},
		{5, []api.Hit{hit(3, 3), hit(5, 3)}, 2, 6},
		{1, nil, 2, 6},
		{6, []api.Hit{hit(1, 6)}, 2, 7},
		{6, nil, 2, 7},
		{7, nil, 3, api.MaxDist},
		{math.MaxInt, nil, 3, api.MaxDist},
	} {
		if got := Upto(w, want.r); !slices.Equal(got, want.l) || w.Opened() != want.opened || w.Low() != want.low {
			t.Errorf("Upto of %d: %v, %d opened, Low %d, want %v", want.r, got, w.Opened(), w.Low(), want)
		}
	}
}

// A node whose things are all farther is opened, as it may have nearer ones; but none of those that come of it.
func TestP202UptoOpensNoFurtherNode(t *testing.T) {
	l := &nodes{behind: map[int][]api.Entry{0: {node(5, 1), node(6, 2), thing(5, 1)}, 3: {node(0, 4)}, 4: {thing(9, 2)}}}
	w := New(l.open, node(4, 0), node(3, 3), node(5, 5))
	if got := Upto(w, 4); len(got) > 0 || !slices.Equal(l.opened, []int{3, 4, 0}) || w.Opened() != 3 || w.Low() != 5 {
		t.Error(got, l.opened, w.Opened(), w.Low())
	}
	// What wasn't told stays, and Next goes on there.
	if h, ok := w.Next(); h != hit(1, 5) || !ok || !slices.Equal(l.opened, []int{3, 4, 0, 1, 5}) {
		t.Error(h, ok, l.opened)
	}
}

func TestP202AllShort(t *testing.T) {
	for _, first := range lists(2, few()) {
		for _, behind := range lists(2, []api.Entry{node(0, 1), node(3, 1), thing(0, 3), thing(1, 1), thing(4, 3)}) {
			b := map[int][]api.Entry{0: behind, 1: {thing(2, 2), thing(5, 5)}}
			checkTake(t, b, first...)
			checkUpto(t, b, first...)
		}
	}
}

func TestP202Mixed(t *testing.T) {
	for seed := range uint64(1000) {
		behind, first := mixed(seed)
		checkTake(t, behind, first...)
		checkUpto(t, behind, first...)
	}
}

// Upto compares Low as it is, as far as numbers go.
func TestP202Ends(t *testing.T) {
	var first []api.Entry
	for i, low := range ends() {
		first = append(first, thing(low, uint64(i)), node(low, i))
	}
	checkAll(t, map[int][]api.Entry{3: {thing(-7, 99), thing(9, 98)}}, first...)
}

// Next, Take, Upto in any order: each goes on where the one ahead of it ended.
func TestP202OneBehindTheOther(t *testing.T) {
	for seed := range uint64(500) {
		next := below(seed)
		behind, first := mixed(seed + 7)
		w, l, m := both(behind, first...)
		for range 12 {
			k, r := next(3), next(11)-1
			var got, want []api.Hit
			switch next(3) {
			case 0:
				got, want = Take(w, k), m.all(math.MaxInt, k)
			case 1:
				got, want = Upto(w, r), m.all(r, math.MaxInt)
			default:
				h, ok := w.Next()
				if ok {
					got = append(got, h)
				}
				want = m.all(math.MaxInt, 1)
			}
			if !slices.Equal(got, want) {
				t.Fatalf("of %v, behind which are %v: %v, want %v", first, behind, got, want)
			}
			checkAt(t, w, l, m)
		}
	}
}

func TestP203NilWalk(t *testing.T) {
	var w *Walk
	for range 2 {
		if h, ok := w.Next(); h != (api.Hit{}) || ok {
			t.Error(h, ok)
		}
		if w.Low() != api.MaxDist || w.Opened() != 0 {
			t.Error(w.Low(), w.Opened())
		}
		for _, n := range ends() {
			if k, r := Take(w, n), Upto(w, n); len(k) > 0 || len(r) > 0 {
				t.Error(k, r)
			}
		}
	}
}

// row is a tree of nodes, none with a thing that is lower than it, and all things that come of it, in the order of the document.
func row(seed uint64) (map[int][]api.Entry, []api.Entry, []api.Hit) {
	next := below(seed)
	behind, lows := map[int][]api.Entry{}, []int{next(3)}
	var told []api.Hit
	for n := 1; n < 60; n++ {
		at := next(len(lows))
		low := lows[at] + next(4)
		if next(2) == 0 {
			behind[at] = append(behind[at], node(low, len(lows)))
			lows = append(lows, low)
		} else {
			id := uint64(next(100))
			behind[at] = append(behind[at], thing(low, id))
			told = append(told, hit(id, low))
		}
	}
	slices.SortFunc(told, func(a, b api.Hit) int {
		if a.Dist != b.Dist {
			return a.Dist - b.Dist
		}
		return int(a.Id) - int(b.Id)
	})
	return behind, []api.Entry{node(lows[0], 0)}, told
}

func TestP204Rising(t *testing.T) {
	for seed := range uint64(500) {
		behind, first, told := row(seed)
		w, _, _ := both(behind, first...)
		if got := Take(w, math.MaxInt); !slices.Equal(got, told) {
			t.Fatalf("%v, want %v", got, told)
		}
		for r := -1; r < 20; r++ {
			w, _, _ = both(behind, first...)
			near := slices.DeleteFunc(slices.Clone(told), func(h api.Hit) bool { return h.Dist > r })
			if got := Upto(w, r); !slices.Equal(got, near) {
				t.Fatalf("Upto of %d: %v, want %v", r, got, near)
			}
			if got := Take(w, math.MaxInt); !slices.Equal(got, told[len(near):]) {
				t.Fatalf("behind Upto of %d: %v, want %v", r, got, told[len(near):])
			}
		}
	}
}

// Of an open that is nil, or panics, nothing stands behind a node, which is opened just the same.
func TestR1OpenThatTellsNothing(t *testing.T) {
	for name, open := range map[string]func(n int) []api.Entry{
		"nil":        nil,
		"panics":     func(int) []api.Entry { panic("no entries") },
		"panics nil": func(int) []api.Entry { panic(nil) },
		"reads nil":  func(n int) []api.Entry { return *(*[]api.Entry)(nil) },
		"out of it":  func(n int) []api.Entry { return [][]api.Entry{}[n] },
	} {
		w := New(open, node(0, 0), thing(1, 5), node(1, 4), node(2, 1), thing(3, 6))
		if h, ok := w.Next(); h != hit(5, 1) || !ok || w.Opened() != 2 || w.Low() != 2 {
			t.Error(name, h, ok, w.Opened(), w.Low())
		}
		if l := Upto(w, 2); len(l) > 0 || w.Opened() != 3 || w.Low() != 3 {
			t.Error(name, l, w.Opened(), w.Low())
		}
		if l := Take(w, 2); !slices.Equal(l, []api.Hit{hit(6, 3)}) || w.Opened() != 3 {
			t.Error(name, l, w.Opened())
		}
	}
}

// An open that panics at some nodes tells of the others.
func TestR1OpenThatPanicsOnce(t *testing.T) {
	w := New(func(n int) []api.Entry { return []api.Entry{thing(6/n, uint64(n))} }, node(0, 3), node(0, 0), node(0, 2))
	if l := Take(w, 9); !slices.Equal(l, []api.Hit{hit(3, 2), hit(2, 3)}) || w.Opened() != 3 {
		t.Error(l, w.Opened())
	}
}

// An open that asks the walk by which it is asked: nothing panics, and nothing comes twice.
func TestR1OpenThatAsksTheWalk(t *testing.T) {
	var w *Walk
	var told []api.Hit
	w = New(func(n int) []api.Entry {
		w.Low()
		w.Opened()
		told = append(told, Take(w, 1)...)
		told = append(told, Upto(w, 4)...)
		return []api.Entry{thing(n, uint64(10+n))}
	}, node(0, 0), node(1, 1), node(2, 2), thing(1, 1), thing(2, 2), thing(3, 3))
	told = append(told, Take(w, 99)...)
	var ids []uint64
	for _, h := range told {
		ids = append(ids, h.Id)
	}
	slices.Sort(ids)
	if !slices.Equal(ids, []uint64{1, 2, 3, 10, 11, 12}) || w.Opened() != 3 {
		t.Error(told, w.Opened())
	}
}

// What is handed in stays as it is, and isn't kept: neither the first entries, nor what open tells.
func TestR3HandedIn(t *testing.T) {
	handed := func() []api.Entry { return []api.Entry{node(5, 0), thing(9, 1), node(3, 1), thing(2, 7)} }
	first := slices.Grow(handed(), 20)
	room := make([]api.Entry, 0, 20)
	w := New(func(n int) []api.Entry {
		// The same memory again: what was told ahead isn't there any more.
		clear(room[:20])
		room = append(room[:0], thing(1, uint64(20+n)), thing(7-n, uint64(10+n)), thing(0, 30))
		return room
	}, first...)
	check := func(n int) {
		if want := []api.Entry{thing(1, uint64(20+n)), thing(7-n, uint64(10+n)), thing(0, 30)}; !slices.Equal(room, want) || !slices.Equal(room[:20][3:], make([]api.Entry, 17)) {
			t.Error(room, want)
		}
	}
	if !reflect.DeepEqual(first, handed()) {
		t.Error(first)
	}
	clear(first)
	got := Take(w, 2)
	check(1)
	got = append(got, Take(w, 9)...)
	check(0)
	want := []api.Hit{hit(7, 2), hit(21, 3), hit(30, 3), hit(20, 5), hit(30, 5), hit(11, 6), hit(10, 7), hit(1, 9)}
	if !slices.Equal(got, want) {
		t.Errorf("%v, want %v", got, want)
	}
	if !slices.Equal(first[:20], make([]api.Entry, 20)) {
		t.Error(first[:20])
	}
}

// What is answered is new memory: who changes it, or puts more behind it, changes nothing else.
func TestR3Answered(t *testing.T) {
	w := New(nil, thing(1, 1), thing(2, 2), thing(3, 3), thing(4, 4), thing(5, 5))
	a := Take(w, 2)
	b := Upto(w, 3)
	c := Take(w, 9)
	for _, l := range [][]api.Hit{a, b} {
		for i := range l {
			l[i] = hit(77, 77)
		}
		_ = append(l, hit(78, 78))
	}
	if !slices.Equal(c, []api.Hit{hit(4, 4), hit(5, 5)}) || len(a) != 2 || len(b) != 1 {
		t.Error(a, b, c)
	}
}
