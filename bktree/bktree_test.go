package bktree

import (
	"math"
	"slices"
	"strings"
	"testing"

	"waywiser/api"
	"waywiser/draws"
	"waywiser/front"
	"waywiser/metric"
)

// hangs is by what edge a node hangs at which parent.
type hangs struct{ parent, edge int }

// checkHangs holds how the nodes of a tree hang against what is wanted.
func checkHangs(t *testing.T, x *Tree, want ...hangs) {
	t.Helper()
	var got []hangs
	for _, n := range x.Image().Bk {
		got = append(got, hangs{n.Parent, n.Edge})
	}
	if !slices.Equal(got, want) {
		t.Fatalf("nodes hang %v, want %v", got, want)
	}
}

// Without nodes, and what it answers asks for nothing.
func TestP231New(t *testing.T) {
	for _, kind := range metrics() {
		meter := metric.New(kind)
		x := New(meter)
		checkState(t, x, newModel(kind))
		for _, r := range radii() {
			checkHits(t, "Range", r, x.Range(vec(3), r), nil)
		}
		for _, k := range counts(0) {
			checkHits(t, "Near", k, x.Near(vec(3), k), nil)
		}
		if h, ok := x.Walk(vec(3)).Next(); h != (api.Hit{}) || ok || x.Walk(vec(3)).Low() != api.MaxDist {
			t.Error(h, ok)
		}
		checkErrno(t, "Delete", x.Delete(0, nil), api.ErrAbsent)
		if meter.Calls() != 0 {
			t.Error("of nothing it asks", meter.Calls())
		}
	}
}

// The examples of the chapter, and of the whole.
func TestP231Example(t *testing.T) {
	x := New(metric.New(api.Lev))
	for i, text := range []string{"cat", "cut", "hat"} {
		checkErrno(t, "Insert", x.Insert(s(uint64(i), text), nil), api.OK)
	}
	checkHangs(t, x, hangs{-1, 0}, hangs{0, 1}, hangs{1, 2})
}

// A kid is next just if it hangs by as much as x is far; each distance on the way is asked for once.
func TestP231Insert(t *testing.T) {
	meter := metric.New(api.L1)
	x, m := New(meter), newModel(api.L1)
	for i, c := range []struct {
		n     int32
		want  hangs
		asked int
	}{
		{10, hangs{-1, 0}, 0}, {13, hangs{0, 3}, 1}, {7, hangs{1, 6}, 2}, {12, hangs{0, 2}, 1}, {10, hangs{0, 0}, 1}, {10, hangs{4, 0}, 2},
		{13, hangs{1, 0}, 2}, {7, hangs{2, 0}, 3}, {8, hangs{3, 4}, 2}, {10, hangs{5, 0}, 3}, {-10, hangs{0, 20}, 1}, {30, hangs{10, 40}, 2}, {7, hangs{7, 0}, 4},
	} {
		item, was := v(uint64(50-i), c.n), meter.Calls()
		checkErrno(t, "Insert", x.Insert(item, nil), api.OK)
		if asked := meter.Calls() - was; asked != c.asked {
			t.Errorf("Insert of %d asks %d times, want %d", c.n, asked, c.asked)
		}
		m.insert(item)
		checkState(t, x, m)
		if n := x.Image().Bk[i]; n.Item.Id != item.Id || (hangs{n.Parent, n.Edge}) != c.want {
			t.Fatalf("%d hangs at %d by %d, want %v", c.n, n.Parent, n.Edge, c.want)
		}
	}
	checkAnswers(t, x, meter, m, vec(11))
}

// With a number that is there nothing changes, and nothing is asked.
func TestP231InsertOfOneThatIsThere(t *testing.T) {
	for _, id := range []uint64{0, 7, 1 << 63, math.MaxUint64} {
		meter := metric.New(api.L1)
		x, m := New(meter), newModel(api.L1)
		x.Insert(v(id, 5), nil)
		m.insert(v(id, 5))
		for _, n := range []int32{5, 6, math.MinInt32} {
			checkErrno(t, "Insert", x.Insert(v(id, n), nil), api.ErrDup)
			checkState(t, x, m)
		}
		if meter.Calls() != 0 {
			t.Error("it asks", meter.Calls())
		}
	}
}

// A thing that is gone isn't there: its number may come again, with the same thing or another one, and go again.
func TestP231InsertOfOneThatIsGone(t *testing.T) {
	meter := metric.New(api.L1)
	x, m := New(meter), newModel(api.L1)
	for i, n := range []int32{5, 6, 7, 8} {
		x.Insert(v(uint64(i), n), nil)
		m.insert(v(uint64(i), n))
	}
	for _, n := range []int32{5, 5, 90} {
		checkErrno(t, "Delete", x.Delete(0, nil), m.delete(0))
		checkErrno(t, "Delete again", x.Delete(0, nil), api.ErrAbsent)
		checkState(t, x, m)
		checkAnswers(t, x, meter, m, vec(5))
		checkErrno(t, "Insert", x.Insert(v(0, n), nil), m.insert(v(0, n)))
		checkErrno(t, "Insert again", x.Insert(v(0, n), nil), api.ErrDup)
		checkState(t, x, m)
		checkAnswers(t, x, meter, m, vec(5))
	}
	if x.Gone() != 3 || x.Len() != 4 {
		t.Error(x.Gone(), x.Len())
	}
}

// Half of the nodes may be gone; of more, all others are put in anew, as they stood.
func TestP231Delete(t *testing.T) {
	meter := metric.New(api.Lev)
	x, m := New(meter), newModel(api.Lev)
	for i, text := range []string{"cat", "cut", "hat", "cart", "dogs", "cat"} {
		x.Insert(s(uint64(9-i), text), nil)
		m.insert(s(uint64(9-i), text))
	}
	was := meter.Calls()
	for i, id := range []uint64{9, 6, 8} {
		checkErrno(t, "Delete", x.Delete(id+10, nil), api.ErrAbsent)
		checkErrno(t, "Delete", x.Delete(id, nil), m.delete(id))
		checkErrno(t, "Delete again", x.Delete(id, nil), api.ErrAbsent)
		checkState(t, x, m)
		if x.Gone() != i+1 || x.Depth() != 4 || x.Len() != 5-i {
			t.Error(id, x.Gone(), x.Depth(), x.Len())
		}
	}
	checkHangs(t, x, hangs{-1, 0}, hangs{0, 1}, hangs{1, 2}, hangs{2, 2}, hangs{0, 4}, hangs{0, 0})
	if meter.Calls() != was {
		t.Error("what goes asks", meter.Calls()-was)
	}
	checkAnswers(t, x, meter, m, str("cat"))

	checkErrno(t, "Delete", x.Delete(4, nil), m.delete(4))
	checkState(t, x, m)
	checkHangs(t, x, hangs{-1, 0}, hangs{0, 4})
	if l := x.Image().Bk; l[0].Item.Id != 7 || l[1].Item.Id != 5 || x.Gone() != 0 || x.Depth() != 2 {
		t.Error(l, x.Gone(), x.Depth())
	}
	checkAnswers(t, x, meter, m, str("cat"))
	for _, id := range []uint64{5, 7, 7} {
		checkErrno(t, "Delete", x.Delete(id, nil), m.delete(id))
		checkState(t, x, m)
	}
	checkErrno(t, "Insert", x.Insert(s(7, "a"), nil), m.insert(s(7, "a")))
	checkState(t, x, m)
}

// Of one to nine nodes, whichever go: just when more than half of them are gone, none is.
func TestP231DeleteOfMoreThanHalf(t *testing.T) {
	for n := 1; n < 10; n++ {
		for first := range n {
			x, m := New(metric.New(api.L1)), newModel(api.L1)
			for i := range n {
				x.Insert(v(uint64(i), int32(i*i%7)), nil)
				m.insert(v(uint64(i), int32(i*i%7)))
			}
			for gone := 1; gone <= n/2+1; gone++ {
				id := uint64((first + 2*gone*n + gone) % n)
				checkErrno(t, "Delete", x.Delete(id, nil), m.delete(id))
				checkState(t, x, m)
				if want := gone % (n/2 + 1); x.Gone() != want || x.Len() != n-gone || len(x.Image().Bk) != x.Gone()+x.Len() {
					t.Fatalf("of %d behind %d: Gone %d, want %d; Len %d", n, gone, x.Gone(), want, x.Len())
				}
			}
		}
	}
}

// Each as by Insert, in order, behind what is there.
func TestP231Bulk(t *testing.T) {
	d := draws.New([]int{3, 5})
	for split := range 7 {
		l := []api.Item{v(5, 0), v(2, 3), v(9, 9), v(4, -3), v(1, 0), v(0, 9)}
		meter, other := metric.New(api.L1), metric.New(api.L1)
		x, y, m := New(meter), New(other), newModel(api.L1)
		for _, part := range [][]api.Item{l[:split], l[split:]} {
			checkErrno(t, "Bulk", x.Bulk(part, d), api.OK)
			for _, item := range part {
				y.Insert(item, d)
			}
			m.bulk(part)
			checkState(t, x, m)
			checkState(t, y, m)
		}
		checkHangs(t, x, hangs{-1, 0}, hangs{0, 3}, hangs{0, 9}, hangs{1, 6}, hangs{0, 0}, hangs{2, 0})
		if meter.Calls() != other.Calls() {
			t.Error("Bulk asks", meter.Calls(), "times, Insert", other.Calls())
		}
	}
	if d.Used() != 0 {
		t.Error("used", d.Used())
	}
}

// With a number that is there, or stands twice, nothing changes, and nothing is asked.
func TestP231BulkOfOneThatIsThere(t *testing.T) {
	for _, ids := range [][]uint64{nil, {7}, {7, 9, 1}} {
		meter := metric.New(api.L1)
		x, m := New(meter), newModel(api.L1)
		for _, id := range ids {
			x.Insert(v(id, int32(id)), nil)
			m.insert(v(id, int32(id)))
		}
		lists := [][]api.Item{{v(3, 30), v(4, 40), v(3, 50)}, {v(3, 30), v(3, 30)}}
		for _, id := range ids {
			lists = append(lists, []api.Item{v(id, 30)}, []api.Item{v(3, 30), v(id, 40), v(4, 50)}, []api.Item{v(3, 30), v(4, 40), v(id, 50)})
		}
		was := meter.Calls()
		for _, l := range lists {
			checkErrno(t, "Bulk", x.Bulk(l, nil), api.ErrDup)
			checkState(t, x, m)
		}
		if meter.Calls() != was {
			t.Error("it asks", meter.Calls()-was)
		}
	}
}

// What is gone isn't there for Bulk, either; of nothing, nothing comes.
func TestP231BulkOfWhatIsGone(t *testing.T) {
	x, m := New(metric.New(api.L1)), newModel(api.L1)
	for _, l := range [][]api.Item{nil, {}, {v(1, 1), v(2, 2)}, nil} {
		checkErrno(t, "Bulk", x.Bulk(l, nil), m.bulk(l))
		checkState(t, x, m)
	}
	x.Delete(1, nil)
	m.delete(1)
	l := []api.Item{v(3, 1), v(1, 1)}
	checkErrno(t, "Bulk", x.Bulk(l, nil), api.OK)
	m.bulk(l)
	checkState(t, x, m)
	if x.Gone() != 1 || x.Len() != 3 {
		t.Error(x.Gone(), x.Len())
	}
}

// How many nodes stand one below the other, gone or not, wherever they are among all.
func TestP231Depth(t *testing.T) {
	x := New(metric.New(api.L1))
	for i, c := range []struct {
		n    int32
		want int
	}{
		{0, 1}, {5, 2}, {9, 2}, {-5, 3}, {-9, 3}, {5, 3}, {-5, 4}, {-5, 5}, {7, 5}, {0, 5},
	} {
		x.Insert(v(uint64(i), c.n), nil)
		if x.Depth() != c.want {
			t.Errorf("behind %d: Depth %d, want %d", i, x.Depth(), c.want)
		}
	}
	for _, id := range []uint64{7, 6, 3, 0, 1} {
		x.Delete(id, nil)
		if x.Depth() != 5 {
			t.Errorf("without %d: Depth %d", id, x.Depth())
		}
	}
	x.Delete(2, nil)
	if x.Depth() != 2 {
		t.Errorf("anew: Depth %d of %v", x.Depth(), x.Image().Bk)
	}
}

// deed is something that is done to a tree, and to a model.
type deed func(x *Tree, m *model) (got, want api.Errno)

func inserts(id uint64, n int32) deed {
	return func(x *Tree, m *model) (api.Errno, api.Errno) { return x.Insert(v(id, n), nil), m.insert(v(id, n)) }
}

func deletes(id uint64) deed {
	return func(x *Tree, m *model) (api.Errno, api.Errno) { return x.Delete(id, nil), m.delete(id) }
}

func bulks(l ...api.Item) deed {
	return func(x *Tree, m *model) (api.Errno, api.Errno) { return x.Bulk(l, nil), m.bulk(l) }
}

// All short rows of deeds.
func TestP231AllShort(t *testing.T) {
	deeds := []deed{
		inserts(1, 0), inserts(2, 0), inserts(1, 5), inserts(3, 7), deletes(1), deletes(2), deletes(4),
		bulks(v(1, 5), v(2, 7)), bulks(v(4, 0), v(2, 9), v(3, 9)), bulks(),
	}
	row := [5]int{}
	for row[4] < len(deeds) {
		meter := metric.New(api.L1)
		x, m := New(meter), newModel(api.L1)
		for _, i := range row {
			got, want := deeds[i](x, m)
			checkErrno(t, "a deed", got, want)
		}
		checkState(t, x, m)
		checkHits(t, "Near", 9, x.Near(vec(6), 9), m.all(vec(6)))
		checkRange(t, x, meter, m, vec(2), 4)
		for i := range row {
			row[i]++
			if row[i] < len(deeds) || i == 4 {
				break
			}
			row[i] = 0
		}
	}
}

// Just the kids are asked for whose edge is near how far their parent is, at the edge, too.
func TestP232RangeAtTheEdge(t *testing.T) {
	meter := metric.New(api.L1)
	x := New(meter)
	// All but the last one hang at the root, by 4, 10 and 30; 14 hangs at 10 by 24 below -10.
	x.Bulk([]api.Item{v(1, 0), v(2, 4), v(3, 10), v(4, 30), v(5, -10), v(6, -10)}, nil)
	checkHangs(t, x, hangs{-1, 0}, hangs{0, 4}, hangs{0, 10}, hangs{0, 30}, hangs{2, 20}, hangs{4, 0})
	for _, c := range []struct{ r, asked, found int }{
		{math.MinInt, 1, 0}, {-1, 1, 0}, {0, 1, 0}, {3, 1, 0}, {4, 2, 1}, {9, 2, 1}, {10, 3, 2}, {14, 3, 3}, {15, 3, 3}, {16, 5, 4}, {23, 5, 4}, {24, 6, 6}, {math.MaxInt, 6, 6},
	} {
		was := meter.Calls()
		l := x.Range(vec(14), c.r)
		if asked := meter.Calls() - was; asked != c.asked || len(l) != c.found {
			t.Errorf("Range of %d asks %d times, and finds %v, want %d and %d", c.r, asked, l, c.asked, c.found)
		}
	}
}

// Those that are gone are asked for, too, and none of them is told; their kids are.
func TestP232RangeOfWhatIsGone(t *testing.T) {
	meter := metric.New(api.L1)
	x, m := New(meter), newModel(api.L1)
	for i, n := range []int32{0, 5, -5, 5, 6, 7} {
		x.Insert(v(uint64(i), n), nil)
		m.insert(v(uint64(i), n))
	}
	for _, id := range []uint64{0, 1, 2} {
		x.Delete(id, nil)
		m.delete(id)
		for q := int32(-9); q < 10; q++ {
			checkAnswers(t, x, meter, m, vec(q))
		}
	}
	was := meter.Calls()
	checkHits(t, "Range", 0, x.Range(vec(5), 0), []api.Hit{{Id: 3}})
	if asked := meter.Calls() - was; x.Gone() != 3 || asked != 3 {
		t.Error(x.Gone(), asked)
	}
}

// A walk asks for what is near only, as long as nothing else is asked of it.
func TestP232WalkAsksAsItGoes(t *testing.T) {
	meter := metric.New(api.L1)
	x := New(meter)
	var l []api.Item
	for i := range 100 {
		l = append(l, v(uint64(i), int32(i)))
	}
	x.Bulk(l, nil)
	was := meter.Calls()
	walk := x.Walk(vec(42))
	for _, want := range []api.Hit{{Id: 42}, {Id: 41, Dist: 1}, {Id: 43, Dist: 1}} {
		if h, ok := walk.Next(); h != want || !ok {
			t.Error(h, ok, want)
		}
	}
	if asked := meter.Calls() - was; asked > 4 {
		t.Error("a walk to what is near asks", asked, "times")
	}
	// Two walks, and other questions, don't disturb each other.
	other := x.Walk(vec(0))
	checkHits(t, "Near", 1, x.Near(vec(7), 1), []api.Hit{{Id: 7}})
	if h, _ := other.Next(); h != (api.Hit{}) {
		t.Error(h)
	}
	if h, _ := walk.Next(); h != (api.Hit{Id: 40, Dist: 2}) {
		t.Error(h)
	}
	for k := range 5 {
		was := meter.Calls()
		x.Near(vec(50), k)
		if asked := meter.Calls() - was; asked > k+3 {
			t.Errorf("Near of %d asks %d times", k, asked)
		}
	}
}

// good is an image of six nodes of which two are gone, one of these with a number that is there, too.
func good() api.Image {
	return api.Image{Bk: []api.Bk{
		{Item: v(4, 10), Parent: -1},
		{Item: v(2, 13), Parent: 0, Edge: 3, Gone: true},
		{Item: v(9, 7), Parent: 1, Edge: 6},
		{Item: v(math.MaxUint64, 7), Parent: 2, Edge: 0},
		{Item: v(4, 10), Parent: 0, Edge: 0, Gone: true},
		{Item: v(0, 50), Parent: 0, Edge: 40},
	}}
}

func TestP233Load(t *testing.T) {
	meter, m := metric.New(api.L1), newModel(api.L1)
	m.nodes = good().Bk
	x := loaded(t, meter, good())
	checkState(t, x, m)
	checkAnswers(t, x, meter, m, vec(8))
	// It goes on as any tree does.
	checkErrno(t, "Insert", x.Insert(v(4, 1), nil), api.ErrDup)
	checkErrno(t, "Delete", x.Delete(2, nil), api.ErrAbsent)
	for _, deed := range []deed{inserts(2, 13), inserts(7, 7), deletes(4), inserts(4, -30), deletes(9), deletes(0), bulks(v(0, 50), v(5, 7)), deletes(7), deletes(2), deletes(5)} {
		got, want := deed(x, m)
		checkErrno(t, "a deed", got, want)
		checkState(t, x, m)
		checkAnswers(t, x, meter, m, vec(8))
	}
}

// Nothing at all, a root alone, and half of the nodes gone are images, too.
func TestP233LoadOfLess(t *testing.T) {
	root, half := good().Bk[:1], good().Bk[:4]
	half[3].Gone = true
	for _, x := range []api.Image{
		{}, {Bk: []api.Bk{}, Vp: []api.Vp{}, Mn: []api.Mn{}, Pivots: []api.Object{}, Rows: []api.Lr{}}, {Bk: root}, {Bk: half},
		{Bk: []api.Bk{{Item: v(7, 3), Parent: -1, Gone: true}, {Item: v(7, 3), Parent: 0}}},
		{Bk: []api.Bk{{Item: v(7, 3), Parent: -1}, {Item: v(7, 3), Parent: 0, Gone: true}}},
		{Bk: []api.Bk{{Item: v(7, 3), Parent: -1, Gone: true}, {Item: v(7, 4), Parent: 0, Edge: 1, Gone: true}, {Item: v(7, 4), Parent: 1}, {Item: v(8, 0), Parent: 0, Edge: 3}}},
	} {
		meter, m := metric.New(api.L1), newModel(api.L1)
		m.nodes = x.Bk
		tree := loaded(t, meter, x)
		checkState(t, tree, m)
		checkAnswers(t, tree, meter, m, vec(3))
	}
}

// checkCorrupt is that an image is none, and stays as it is.
func checkCorrupt(t *testing.T, what string, kind int, x api.Image) {
	t.Helper()
	was := plain(x)
	for range 2 {
		if tree, e := Load(metric.New(kind), x); tree != nil || e != api.ErrCorrupt {
			t.Errorf("%s: %v, %d", what, tree, e)
		}
		if tree, e := Load(nil, x); tree != nil || e != api.ErrNil {
			t.Errorf("%s, of a nil meter: %v, %d", what, tree, e)
		}
	}
	if !sameImage(x, was) {
		t.Errorf("%s: Load changed it", what)
	}
}

func TestP233LoadOfWhatIsNone(t *testing.T) {
	for what, spoil := range map[string]func(x *api.Image){
		"Vp":                              func(x *api.Image) { x.Vp = make([]api.Vp, 1) },
		"Mn":                              func(x *api.Image) { x.Mn = make([]api.Mn, 1) },
		"a Root":                          func(x *api.Image) { x.Root = 1 },
		"a Root below 0":                  func(x *api.Image) { x.Root = -1 },
		"Pivots":                          func(x *api.Image) { x.Pivots = make([]api.Object, 1) },
		"Rows":                            func(x *api.Image) { x.Rows = make([]api.Lr, 1) },
		"no root":                         func(x *api.Image) { x.Bk = x.Bk[1:] },
		"a root with a Parent":            func(x *api.Image) { x.Bk[0].Parent = 0 },
		"a root with a Parent behind":     func(x *api.Image) { x.Bk[0].Parent = 1 },
		"a root with a Parent far below":  func(x *api.Image) { x.Bk[0].Parent = -2 },
		"a root with an Edge":             func(x *api.Image) { x.Bk[0].Edge = 1 },
		"a root with an Edge below 0":     func(x *api.Image) { x.Bk[0].Edge = -1 },
		"a second root":                   func(x *api.Image) { x.Bk[5].Parent = -1 },
		"a second root, without an Edge":  func(x *api.Image) { x.Bk[4].Parent = -1 },
		"a Parent below all":              func(x *api.Image) { x.Bk[5].Parent = math.MinInt },
		"itself as its Parent":            func(x *api.Image) { x.Bk[4].Parent = 4 },
		"a Parent behind":                 func(x *api.Image) { x.Bk[2].Parent, x.Bk[2].Edge = 3, 0 },
		"a Parent that isn't there":       func(x *api.Image) { x.Bk[5].Parent = 6 },
		"a Parent above all":              func(x *api.Image) { x.Bk[5].Parent = math.MaxInt },
		"a Parent too high":               func(x *api.Image) { x.Bk[2].Parent, x.Bk[2].Edge = 0, 3 },
		"a Parent too low":                func(x *api.Image) { x.Bk[5].Parent, x.Bk[5].Edge = 3, 43 },
		"a Parent from which all is so":   func(x *api.Image) { x.Bk[4].Parent, x.Bk[4].Edge = 3, 3 },
		"an Edge that is less":            func(x *api.Image) { x.Bk[5].Edge-- },
		"an Edge that is greater":         func(x *api.Image) { x.Bk[3].Edge++ },
		"an Edge below 0":                 func(x *api.Image) { x.Bk[1].Edge = -3 },
		"an Edge above all":               func(x *api.Image) { x.Bk[5].Edge = math.MaxInt },
		"another thing":                   func(x *api.Image) { x.Bk[5].Item.Obj = vec(51) },
		"another root":                    func(x *api.Image) { x.Bk[0].Item.Obj = vec(11) },
		"another thing that is gone":      func(x *api.Image) { x.Bk[1].Item.Obj = vec(14) },
		"a thing as far from its parent":  func(x *api.Image) { x.Bk[3].Item.Obj, x.Bk[3].Edge = vec(19), 12 },
		"one that hangs on the other way": func(x *api.Image) { x.Bk[2].Item.Obj = vec(19) },
		"two kids by one Edge":            func(x *api.Image) { x.Bk[5].Item.Obj, x.Bk[5].Edge = vec(13), 3 },
		"two kids by one Edge, one gone":  func(x *api.Image) { x.Bk[5].Item.Obj, x.Bk[5].Edge = vec(10), 0 },
		"nodes in another order":          func(x *api.Image) { x.Bk[1], x.Bk[5] = x.Bk[5], x.Bk[1] },
		"one Id twice":                    func(x *api.Image) { x.Bk[5].Item.Id = 9 },
		"one Id twice, root and last":     func(x *api.Image) { x.Bk[5].Item.Id = 4 },
		"one Id twice, of one thing":      func(x *api.Image) { x.Bk[3].Item.Id = 9 },
		"one Id twice, as none is gone":   func(x *api.Image) { x.Bk[4].Gone = false },
		"more than half gone":             func(x *api.Image) { x.Bk[0].Gone, x.Bk[5].Gone = true, true },
		"more than half gone, of five":    func(x *api.Image) { x.Bk, x.Bk[0].Gone = x.Bk[:5], true },
		"all gone":                        func(x *api.Image) { x.Bk, x.Bk[0].Gone = x.Bk[:1], true },
		"Rows alone":                      func(x *api.Image) { *x = api.Image{Rows: make([]api.Lr, 1)} },
		"a Root alone":                    func(x *api.Image) { *x = api.Image{Root: 1} },
	} {
		x := good()
		spoil(&x)
		checkCorrupt(t, what, api.L1, x)
	}
}

// right is the document's words on what an image may be, held against each node and all above it.
func right(m *model) bool {
	if 2*m.gone() > len(m.nodes) {
		return false
	}
	type hook struct{ parent, edge int }
	kids, ids := map[hook]bool{}, map[uint64]bool{}
	for at, n := range m.nodes {
		if at == 0 && (n.Parent != -1 || n.Edge != 0) || at > 0 && (n.Parent < 0 || n.Parent >= at) {
			return false
		}
		for low := at; low > 0; low = m.nodes[low].Parent {
			if m.dist(n.Item.Obj, m.nodes[m.nodes[low].Parent].Item.Obj) != m.nodes[low].Edge {
				return false
			}
		}
		if kids[hook{n.Parent, n.Edge}] || !n.Gone && ids[n.Item.Id] {
			return false
		}
		kids[hook{n.Parent, n.Edge}] = true
		ids[n.Item.Id] = ids[n.Item.Id] || !n.Gone
	}
	return true
}

// Each field of each node as any of some others: it is loaded just if it may be.
func TestP233LoadOfWhatIsNearlyOne(t *testing.T) {
	refused, taken := 0, 0
	for _, kind := range metrics() {
		next := drawer(uint64(kind))
		m := newModel(kind)
		for i := range 12 {
			m.insert(api.Item{Id: uint64(i), Obj: thing(kind, next)})
		}
		for _, id := range []uint64{3, 4, 7, 0} {
			m.delete(id)
		}
		for range 4000 {
			c := m.clone()
			for range 1 + next(2) {
				n := &c.nodes[next(len(c.nodes))]
				switch next(5) {
				case 0:
					n.Parent = next(13) - 1
				case 1:
					n.Edge = next(5)
				case 2:
					n.Item.Id = uint64(next(14))
				case 3:
					n.Gone = !n.Gone
				default:
					n.Item.Obj = thing(kind, next)
				}
			}
			if !right(c) {
				refused++
				checkCorrupt(t, "another field", kind, c.image())
				continue
			}
			taken++
			meter := metric.New(kind)
			x := loaded(t, meter, c.image())
			checkState(t, x, c)
			checkRange(t, x, meter, c, thing(kind, next), 2)
		}
	}
	if refused < 1000 || taken < 1000 {
		t.Error(refused, taken)
	}
}

// Things, and what is asked for, that aren't right: what is loaded answers by how far the meter tells they are.
func TestP233LoadOfWhatIsNoThing(t *testing.T) {
	const greatest = math.MaxInt32
	wrong := []api.Object{
		{}, {Tag: 3, Vec: []int32{1}, Str: "a"}, {Tag: math.MinInt, Str: "ab"}, vec(), vec(1), vec(1, 0, 0), vec(1, 0, 7), str(""), str("\xff\x00"), str("aba"), str("ab"), {Tag: api.TagStr, Vec: []int32{greatest, -greatest}, Str: "bb"},
		// Farther from others than distances are.
		vec(slices.Repeat([]int32{math.MinInt32}, 5*api.MaxSize)...), vec(slices.Repeat([]int32{greatest}, 5*api.MaxSize)...), vec(slices.Repeat([]int32{greatest}, api.MaxSize)...),
	}
	far := metric.Dist(api.L1, wrong[12], wrong[13])
	if far <= api.MaxDist {
		t.Fatal(far)
	}
	for _, kind := range []int{0, api.L1, api.Ham, api.Lev, math.MaxInt} {
		meter, m := metric.New(kind), newModel(kind)
		for i := range 2 * len(wrong) {
			m.insert(api.Item{Id: uint64(99 - i), Obj: wrong[i*7%len(wrong)]})
		}
		for _, id := range []uint64{99, 80, 75, 90} {
			m.delete(id)
		}
		x := loaded(t, meter, m.image())
		checkState(t, x, m)
		for _, q := range wrong {
			for _, r := range []int{0, 3, api.MaxDist, far - 1, far} {
				checkRange(t, x, meter, m, q, r)
			}
			all := m.all(q)
			checkHits(t, "Near", 7, x.Near(q, 7), all[:7])
			checkHits(t, "Walk", len(all), front.Take(x.Walk(q), math.MaxInt), all)
		}
	}
}

// A nil meter goes ahead of all else, also where nothing is to be asked.
func TestP233LoadOfANilMeter(t *testing.T) {
	for _, x := range []api.Image{{}, good(), {Root: 1}, {Bk: good().Bk[:1]}} {
		if tree, e := Load(nil, x); tree != nil || e != api.ErrNil {
			t.Error(tree, e)
		}
	}
}

func TestP234OfNil(t *testing.T) {
	var x *Tree
	d := draws.New([]int{1})
	for range 2 {
		checkErrno(t, "Insert", x.Insert(v(1, 1), d), api.ErrNil)
		checkErrno(t, "Delete", x.Delete(1, d), api.ErrNil)
		checkErrno(t, "Bulk", x.Bulk([]api.Item{v(1, 1), v(2, 2)}, d), api.ErrNil)
		checkErrno(t, "Bulk of one Id twice", x.Bulk([]api.Item{v(1, 1), v(1, 2)}, d), api.ErrNil)
		checkErrno(t, "Bulk of nothing", x.Bulk(nil, nil), api.ErrNil)
		checkState(t, x, newModel(api.L1))
		for _, n := range []int{math.MinInt, -1, 0, 1, math.MaxInt} {
			checkHits(t, "Range", n, x.Range(vec(3), n), nil)
			checkHits(t, "Near", n, x.Near(vec(3), n), nil)
		}
		walk := x.Walk(vec(3))
		if h, ok := walk.Next(); h != (api.Hit{}) || ok || walk.Low() != api.MaxDist || walk.Opened() != 0 {
			t.Error(h, ok, walk.Low(), walk.Opened())
		}
	}
	if d.Used() != 0 {
		t.Error(d.Used())
	}
}

// step does one thing of those that may be done to both.
func step(t *testing.T, x *Tree, m *model, next func(below int) int) {
	t.Helper()
	id := func() uint64 { return uint64(next(30)) * 0x0842108421084210 }
	item := func() api.Item { return api.Item{Id: id(), Obj: thing(m.kind, next)} }
	d := draws.New([]int{next(100)})
	switch next(8) {
	case 0, 1, 2:
		y := item()
		checkErrno(t, "Insert", x.Insert(y, d), m.insert(y))
	case 3, 4, 5, 6:
		y := id()
		checkErrno(t, "Delete", x.Delete(y, d), m.delete(y))
	default:
		var l []api.Item
		for range next(6) {
			l = append(l, item())
		}
		checkErrno(t, "Bulk", x.Bulk(l, d), m.bulk(l))
	}
	if d.Used() != 0 {
		t.Fatal("used", d.Used())
	}
}

// Whatever is done, it answers as a scan does; and so does what is loaded of its image, which goes on in its place.
func TestP235Mixed(t *testing.T) {
	for _, kind := range metrics() {
		for seed := range uint64(30) {
			next := drawer(seed*77 + uint64(kind))
			meter := metric.New(kind)
			x, m := New(meter), newModel(kind)
			for range 80 {
				step(t, x, m, next)
				checkState(t, x, m)
				checkAnswers(t, x, meter, m, thing(kind, next))
				if next(10) == 0 {
					x = loaded(t, meter, x.Image())
				}
			}
		}
	}
}

// Both of two trees, of which one is loaded, go on alike, and neither disturbs the other one.
func TestP235LoadedGoesOnAlike(t *testing.T) {
	for _, kind := range metrics() {
		next := drawer(uint64(kind))
		meter := metric.New(kind)
		x, m := New(meter), newModel(kind)
		for range 20 {
			step(t, x, m, next)
		}
		y, n := loaded(t, meter, x.Image()), m.clone()
		other := drawer(99)
		for range 40 {
			step(t, x, m, next)
			step(t, y, n, other)
			checkState(t, x, m)
			checkState(t, y, n)
			q := thing(kind, next)
			checkAnswers(t, x, meter, m, q)
			checkAnswers(t, y, meter, n, q)
		}
	}
}

// The greatest things, which are as far apart as right ones may be.
func TestP235TheGreatestThings(t *testing.T) {
	least := vec(slices.Repeat([]int32{math.MinInt32}, api.MaxSize)...)
	greatest := vec(slices.Repeat([]int32{math.MaxInt32}, api.MaxSize)...)
	middle := vec(make([]int32, api.MaxSize)...)
	long := func(s string) api.Object { return str(strings.Repeat(s, 400)) }
	for _, c := range []struct {
		kind   int
		things []api.Object
	}{
		{api.L1, []api.Object{least, middle, greatest, middle}},
		{api.Ham, []api.Object{long("ab"), long("ba"), long("aa"), long("ab")}},
		{api.Lev, []api.Object{long("ab"), long("ba"), long("aa"), str("")}},
	} {
		meter := metric.New(c.kind)
		x, m := New(meter), newModel(c.kind)
		for i, y := range c.things {
			item := api.Item{Id: uint64(9 - i), Obj: y}
			x.Insert(item, nil)
			m.insert(item)
		}
		checkState(t, x, m)
		for _, q := range c.things {
			all := m.all(q)
			checkHits(t, "Walk", 9, front.Take(x.Walk(q), 9), all)
			for _, h := range all {
				checkRange(t, x, meter, m, q, h.Dist)
				checkRange(t, x, meter, m, q, h.Dist-1)
			}
		}
	}
}

// As many things as an index may have, all but one of them kids of one node.
func TestP235OfMany(t *testing.T) {
	const n = api.MaxObjects
	l := make([]api.Item, n)
	for i := range l {
		l[i] = v(uint64(n-i), int32(i))
	}
	meter := metric.New(api.L1)
	x := New(meter)
	checkErrno(t, "Bulk", x.Bulk(l[:n-1], nil), api.OK)
	checkErrno(t, "Insert", x.Insert(l[n-1], nil), api.OK)
	want := []api.Hit{{Id: n - 77}, {Id: n - 78, Dist: 1}, {Id: n - 76, Dist: 1}}
	was := meter.Calls()
	checkHits(t, "Range", 1, x.Range(vec(77), 1), want)
	if asked := meter.Calls() - was; asked != 4 || x.Depth() != 2 {
		t.Error(asked, x.Depth())
	}
	checkHits(t, "Near", 3, x.Near(vec(77), 3), want)
	checkHits(t, "Walk", 3, front.Take(x.Walk(vec(77)), 3), want)
	for i := range uint64(n - 1) {
		checkErrno(t, "Delete", x.Delete(i*7%n+1, nil), api.OK)
	}
	last := uint64(n-1)*7%n + 1
	if items := x.Items(); len(items) != 1 || items[0].Id != last || x.Depth() != 1 {
		t.Error(len(items), x.Depth())
	}
	checkHits(t, "Near", 3, x.Near(vec(0), 3), []api.Hit{{Id: last, Dist: int(n - last)}})
}

// Nodes of which each one stands below the one ahead of it.
func TestP235OfADeepTree(t *testing.T) {
	const n = 3000
	meter := metric.New(api.Ham)
	x := New(meter)
	for i := range n {
		checkErrno(t, "Insert", x.Insert(s(uint64(n-i), "same"), nil), api.OK)
	}
	y := loaded(t, meter, x.Image())
	for _, tree := range []*Tree{x, y} {
		if l := tree.Range(str("same"), 0); tree.Depth() != n || len(l) != n || l[0].Id != 1 || l[n-1].Id != n {
			t.Error(tree.Depth(), len(l))
		}
		checkHits(t, "Near", 2, tree.Near(str("some"), 2), []api.Hit{{Id: 1, Dist: 1}, {Id: 2, Dist: 1}})
	}
	for i := range n {
		checkErrno(t, "Delete", x.Delete(uint64(i+1), nil), api.OK)
	}
	if x.Depth() != 0 || y.Depth() != n {
		t.Error(x.Depth(), y.Depth())
	}
}

// What isn't right, and a meter that is nil, or of no metric: each call ends, and none panics.
func TestR1WhatIsNoThing(t *testing.T) {
	wrong := []api.Object{
		{}, {Tag: 3, Vec: []int32{1}, Str: "a"}, {Tag: math.MinInt}, vec(), str(""), vec(math.MinInt32, math.MaxInt32), str("\xff\x00"),
		vec(slices.Repeat([]int32{math.MinInt32}, 5*api.MaxSize)...),
	}
	meters := []*metric.Meter{nil, metric.New(0), metric.New(math.MaxInt), metric.New(api.L1), metric.New(api.Ham), metric.New(api.Lev)}
	for _, meter := range meters {
		x := New(meter)
		for i, y := range wrong {
			checkErrno(t, "Insert", x.Insert(api.Item{Id: uint64(len(wrong) - i), Obj: y}, nil), api.OK)
		}
		for _, q := range wrong {
			all := front.Take(x.Walk(q), math.MaxInt)
			if len(all) != len(wrong) || len(x.Items()) != len(wrong) {
				t.Fatal(len(all), len(x.Items()))
			}
			for k := range len(all) + 2 {
				checkHits(t, "Near", k, x.Near(q, k), all[:min(k, len(all))])
			}
			x.Range(q, 1)
		}
		checkErrno(t, "Bulk", x.Bulk([]api.Item{{Id: 100, Obj: wrong[2]}, {Id: 101}}, draws.New([]int{math.MinInt})), api.OK)
		for _, item := range x.Items() {
			checkErrno(t, "Delete", x.Delete(item.Id, draws.New(nil)), api.OK)
		}
		if x.Len() != 0 || x.Gone() != 0 {
			t.Error(x.Len(), x.Gone())
		}
	}
}

// A walk behind a change ends, too, whatever was put in or taken out.
func TestR1WalkBehindAChange(t *testing.T) {
	for told := range 6 {
		for gone := range 21 {
			x := New(metric.New(api.L1))
			for i := range 20 {
				x.Insert(v(uint64(i), int32(i*i%23)), nil)
			}
			walk := x.Walk(vec(3))
			front.Take(walk, told)
			for i := range 30 {
				x.Insert(v(uint64(50+i), int32(i)), nil)
			}
			for i := range gone {
				x.Delete(uint64(i), nil)
				x.Delete(uint64(50+i), nil)
			}
			x.Insert(v(90, 5), nil)
			if l := front.Take(walk, 1000); len(l) > 100 {
				t.Error(len(l))
			}
		}
	}
}

// What is handed in isn't changed, and is changed later without anything of the tree changing.
func TestR3HandedIn(t *testing.T) {
	spoil := func(l []api.Item) {
		for i := range l {
			for k := range l[i].Obj.Vec {
				l[i].Obj.Vec[k] += 1000
			}
			l[i] = api.Item{}
		}
	}
	meter := metric.New(api.L1)
	x, m := New(meter), newModel(api.L1)
	l := []api.Item{v(5, 0), v(2, 3), v(9, 9)}
	x.Bulk(l, nil)
	m.bulk(l)
	spoil(l)
	checkState(t, x, m)

	l = []api.Item{v(7, 20)}
	x.Insert(l[0], nil)
	m.insert(l[0])
	spoil(l)
	checkState(t, x, m)
	checkAnswers(t, x, meter, m, vec(8))

	q := vec(8)
	all := m.all(q)
	walk := x.Walk(q)
	walk.Next()
	q.Vec[0] = 1000
	checkHits(t, "Walk", 9, front.Take(walk, 9), all[1:])

	image := x.Image()
	y := loaded(t, meter, image)
	for i := range image.Bk {
		spoil([]api.Item{image.Bk[i].Item})
	}
	clear(image.Bk)
	checkState(t, y, m)
	checkAnswers(t, y, meter, m, vec(8))
}

// What callers write into an answer, or behind it, changes nothing of the tree, and of no other answer.
func TestR3Answered(t *testing.T) {
	x, m := New(metric.New(api.L1)), newModel(api.L1)
	for i, n := range []int32{0, 3, 9, 9, 20} {
		x.Insert(v(uint64(i), n), nil)
		m.insert(v(uint64(i), n))
	}
	x.Delete(2, nil)
	m.delete(2)
	items, image, again := x.Items(), x.Image(), x.Image()
	for i := range items {
		items[i].Obj.Vec[0] += 100
		_ = append(items[i].Obj.Vec, 1)
	}
	checkState(t, x, m)
	for i := range image.Bk {
		image.Bk[i].Item.Obj.Vec[0] += 300
		_ = append(image.Bk[i].Item.Obj.Vec, 1)
	}
	clear(image.Bk)
	checkState(t, x, m)
	if !sameImage(again, m.image()) {
		t.Error(again)
	}
	near, within := x.Near(vec(0), 3), x.Range(vec(0), 9)
	clear(near)
	clear(within)
	checkHits(t, "Near", 3, x.Near(vec(0), 3), m.all(vec(0))[:3])
	checkHits(t, "Range", 9, x.Range(vec(0), 9), m.all(vec(0))[:3])
}

// Questions change nothing that is asked later.
func TestR4AnswersAreTheSameAgain(t *testing.T) {
	meter := metric.New(api.Lev)
	x, m := New(meter), newModel(api.Lev)
	next := drawer(3)
	for i := range 200 {
		item := api.Item{Id: uint64(i), Obj: thing(api.Lev, next)}
		x.Insert(item, nil)
		m.insert(item)
	}
	for range 5 {
		was := meter.Calls()
		x.Near(str("ab"), 4)
		once := meter.Calls() - was
		x.Near(str("ab"), 4)
		if twice := meter.Calls() - was; twice != 2*once {
			t.Error("Near asks", once, "and", twice-once, "times")
		}
		checkAnswers(t, x, meter, m, str("abba"))
		checkState(t, x, m)
	}
}
