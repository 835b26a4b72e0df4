package laesa

import (
	"math"
	"slices"
	"strings"
	"testing"

	"waywiser/api"
	"waywiser/draws"
	"waywiser/front"
	"waywiser/metric"
)

func TestP221Low(t *testing.T) {
	const most = api.MaxDist
	for _, c := range []struct {
		a, b []int
		want int
	}{
		{nil, nil, 0}, {[]int{}, nil, 0}, {[]int{5}, nil, 0}, {nil, []int{5}, 0},
		{[]int{3}, []int{10}, 7}, {[]int{10}, []int{3}, 7}, {[]int{3}, []int{3}, 0},
		{[]int{1, 5, 9}, []int{2, 8, 9}, 3}, {[]int{5, 1, 9}, []int{8, 2, 9}, 3}, {[]int{1, 9, 5}, []int{2, 9, 8}, 3},
		{[]int{1, 8}, []int{4, 0}, 8}, {[]int{4, 0}, []int{1, 8}, 8},
		{[]int{1, 100}, []int{3}, 2}, {[]int{3}, []int{1, 100}, 2}, {[]int{1, 2, 100}, []int{1, 2}, 0}, {[]int{0}, []int{0, 7}, 0},
		{[]int{0}, []int{most}, most}, {[]int{most, 0}, []int{0, 1}, most}, {[]int{most - 1}, []int{most}, 1},
		{[]int{-5}, []int{3}, 3}, {[]int{-5}, []int{-9}, 0}, {[]int{most + 7}, []int{most}, 0}, {[]int{most + 7}, []int{1}, most - 1},
		{[]int{math.MinInt}, []int{math.MaxInt}, most}, {[]int{math.MaxInt}, []int{math.MinInt}, most}, {[]int{math.MaxInt, 2}, []int{math.MaxInt, 3}, 1},
	} {
		if got := Low(c.a, c.b); got != c.want {
			t.Errorf("of %v and %v: %d, want %d", c.a, c.b, got, c.want)
		}
	}
}

func TestP221LowOfAllShort(t *testing.T) {
	rows := [][]int{nil}
	for i := 0; i < len(rows) && len(rows[i]) < 3; i++ {
		for _, n := range []int{0, 1, 4, 6} {
			rows = append(rows, append(slices.Clone(rows[i]), n))
		}
	}
	for _, a := range rows {
		for _, b := range rows {
			wasA, wasB := slices.Clone(a), slices.Clone(b)
			if got, want := Low(a, b), low(a, b); got != want {
				t.Errorf("of %v and %v: %d, want %d", a, b, got, want)
			}
			if !slices.Equal(a, wasA) || !slices.Equal(b, wasB) {
				t.Fatalf("of %v and %v: now they are %v and %v", wasA, wasB, a, b)
			}
		}
	}
}

// Without pivots and things, whatever most is.
func TestP222New(t *testing.T) {
	for _, kind := range metrics() {
		for _, most := range []int{math.MinInt, -1, 0, 1, api.MaxPivots, math.MaxInt} {
			meter := metric.New(kind)
			x := New(meter, most)
			checkState(t, x, newModel(kind, most))
			checkAnswers(t, x, meter, newModel(kind, most), vec(3))
			checkErrno(t, "Delete", x.Delete(0, nil), api.ErrAbsent)
			if meter.Calls() != 0 {
				t.Error("of nothing it asks", meter.Calls())
			}
		}
	}
}

// A pivot more is the last one, and each thing that was there gets its distance from it.
func TestP222Insert(t *testing.T) {
	x, m := New(metric.New(api.L1), 3), newModel(api.L1, 3)
	for i, c := range []struct {
		n      int32
		pivots []int32
	}{
		{4, []int32{4}}, {4, []int32{4}}, {6, []int32{4, 6}}, {6, []int32{4, 6}}, {4, []int32{4, 6}},
		{1, []int32{4, 6, 1}}, {9, []int32{4, 6, 1}}, {-50, []int32{4, 6, 1}}, {1, []int32{4, 6, 1}},
	} {
		item := v(uint64(100-i), c.n)
		checkErrno(t, "Insert", x.Insert(item, nil), api.OK)
		m.insert(item)
		checkState(t, x, m)
		var got []int32
		for _, p := range x.Pivots() {
			got = append(got, p.Vec[0])
		}
		if !slices.Equal(got, c.pivots) {
			t.Fatalf("behind %d pivots are %v, want %v", i, got, c.pivots)
		}
	}
	if r := x.Image().Rows; r[0].Item.Id != 92 || !slices.Equal(r[1].Row, []int{54, 56, 51}) || !slices.Equal(r[8].Row, []int{0, 2, 3}) {
		t.Error(r)
	}
}

// With a number that is there nothing changes: the thing stays, and no pivot comes.
func TestP222InsertOfOneThatIsThere(t *testing.T) {
	for _, id := range []uint64{0, 7, 1 << 63, math.MaxUint64} {
		x, m := New(metric.New(api.L1), 9), newModel(api.L1, 9)
		x.Insert(v(id, 5), nil)
		m.insert(v(id, 5))
		for _, n := range []int32{5, 6, math.MinInt32} {
			checkErrno(t, "Insert", x.Insert(v(id, n), nil), api.ErrDup)
			checkState(t, x, m)
		}
	}
}

func TestP222Delete(t *testing.T) {
	meter := metric.New(api.L1)
	x, m := New(meter, 2), newModel(api.L1, 2)
	put := func(id uint64, n int32) {
		x.Insert(v(id, n), nil)
		m.insert(v(id, n))
	}
	for i := range 6 {
		put(uint64(i), int32(3*i))
	}
	// The first one, the last one, those between, pivots and none.
	for _, id := range []uint64{0, 5, 2, 1, 4, 3} {
		checkErrno(t, "Delete", x.Delete(id+6, nil), api.ErrAbsent)
		checkErrno(t, "Delete", x.Delete(id, nil), m.delete(id))
		checkErrno(t, "Delete again", x.Delete(id, nil), api.ErrAbsent)
		checkState(t, x, m)
		checkAnswers(t, x, meter, m, vec(4))
	}
	if x.Len() != 0 || len(x.Pivots()) != 2 {
		t.Error(x.Items(), x.Pivots())
	}
	// Pivots that stayed are pivots still, and what comes is held against them.
	put(3, 50)
	put(0, 3)
	checkState(t, x, m)
	checkAnswers(t, x, meter, m, vec(4))
}

// Pivots are chosen from the place on that is picked, of as many as the list has.
func TestP222Bulk(t *testing.T) {
	l := []api.Item{v(5, 0), v(2, 3), v(9, 9), v(4, 9), v(1, 0)}
	for _, c := range []struct {
		most, pick int
		want       []int32
	}{
		{2, 0, []int32{0, 9}}, {2, 1, []int32{3, 9}}, {2, 2, []int32{9, 0}}, {2, 3, []int32{9, 0}}, {2, 4, []int32{0, 9}}, {2, 5, []int32{0, 9}}, {2, 6, []int32{3, 9}}, {2, -1, []int32{0, 9}}, {2, -4, []int32{3, 9}},
		{1, 0, []int32{0}}, {1, 1, []int32{3}}, {1, 8, []int32{9}}, {0, 1, nil}, {-1, 1, nil}, {math.MinInt, 1, nil},
		{3, 0, []int32{0, 9, 3}}, {3, 1, []int32{3, 9, 0}}, {9, 0, []int32{0, 9, 3}}, {math.MaxInt, 2, []int32{9, 0, 3}},
	} {
		d := draws.New([]int{c.pick, 77})
		x, m := New(metric.New(api.L1), c.most), newModel(api.L1, c.most)
		checkErrno(t, "Bulk", x.Bulk(l, d), m.bulk(l, draws.New([]int{c.pick})))
		checkState(t, x, m)
		var got []int32
		for _, p := range x.Pivots() {
			got = append(got, p.Vec[0])
		}
		if !slices.Equal(got, c.want) || d.Used() != 1 {
			t.Errorf("most %d, pick %d: pivots are %v, want %v; used %d", c.most, c.pick, got, c.want, d.Used())
		}
	}
}

// Where there are pivots, each is put in as by Insert, and nothing is picked.
func TestP222BulkBehindPivots(t *testing.T) {
	x, m := New(metric.New(api.L1), 3), newModel(api.L1, 3)
	x.Insert(v(7, 5), nil)
	m.insert(v(7, 5))
	d := draws.New([]int{2})
	l := []api.Item{v(3, 5), v(1, 6), v(2, 100), v(9, 50), v(8, 6)}
	checkErrno(t, "Bulk", x.Bulk(l, d), api.OK)
	m.bulk(l, nil)
	checkState(t, x, m)
	if p := x.Pivots(); len(p) != 3 || p[1].Vec[0] != 6 || p[2].Vec[0] != 100 || d.Used() != 0 {
		t.Error(p, d.Used())
	}
	// Pivots stay when all things are gone: what comes then is held against them, too.
	for id := range uint64(10) {
		x.Delete(id, d)
		m.delete(id)
	}
	more := []api.Item{v(1, 5), v(0, 70)}
	checkErrno(t, "Bulk", x.Bulk(more, d), api.OK)
	m.bulk(more, nil)
	checkState(t, x, m)
	if d.Used() != 0 {
		t.Error("used", d.Used())
	}
}

// With a number that is there, or stands twice, nothing changes and nothing is picked.
func TestP222BulkOfOneThatIsThere(t *testing.T) {
	for _, ids := range [][]uint64{nil, {7}, {7, 9, 1}} {
		x, m := New(metric.New(api.L1), 9), newModel(api.L1, 9)
		for _, id := range ids {
			x.Insert(v(id, int32(id)), nil)
			m.insert(v(id, int32(id)))
		}
		lists := [][]api.Item{{v(3, 30), v(4, 40), v(3, 50)}, {v(3, 30), v(3, 30)}}
		for _, id := range ids {
			lists = append(lists, []api.Item{v(id, 30)}, []api.Item{v(3, 30), v(id, 40), v(4, 50)}, []api.Item{v(3, 30), v(4, 40), v(id, 50)})
		}
		for _, l := range lists {
			d := draws.New([]int{1})
			checkErrno(t, "Bulk", x.Bulk(l, d), api.ErrDup)
			checkState(t, x, m)
			if d.Used() != 0 {
				t.Error("used", d.Used())
			}
		}
	}
}

// Of no items there is nothing to pick, with or without pivots.
func TestP222BulkOfNothing(t *testing.T) {
	x, m := New(metric.New(api.L1), 2), newModel(api.L1, 2)
	d := draws.New([]int{1})
	for range 2 {
		checkErrno(t, "Bulk", x.Bulk(nil, d), api.OK)
		checkErrno(t, "Bulk", x.Bulk([]api.Item{}, nil), api.OK)
		checkState(t, x, m)
		x.Insert(v(1, 1), nil)
		m.insert(v(1, 1))
	}
	if d.Used() != 0 {
		t.Error("used", d.Used())
	}
}

// Things without pivots, as an image may have them, get their distances from those that come, by either call.
func TestP222PivotsBehindThings(t *testing.T) {
	bare := func() (*Table, *model) {
		m := newModel(api.L1, 2)
		m.things[4], m.things[2] = vec(8), vec(1)
		return loaded(t, metric.New(api.L1), 2, m.image()), m
	}
	x, m := bare()
	checkState(t, x, m)
	x.Insert(v(3, 8), nil)
	m.insert(v(3, 8))
	checkState(t, x, m)

	x, m = bare()
	d := draws.New([]int{2})
	l := []api.Item{v(9, 5), v(7, 3), v(1, 8)}
	x.Bulk(l, d)
	m.bulk(l, draws.New([]int{2}))
	checkState(t, x, m)
	if p := x.Pivots(); len(p) != 2 || p[0].Vec[0] != 8 || p[1].Vec[0] != 3 || d.Used() != 1 {
		t.Error(p, d.Used())
	}
}

// deed is something that is done to a table, and to a model.
type deed func(x *Table, m *model) (got, want api.Errno)

func inserts(id uint64, n int32) deed {
	return func(x *Table, m *model) (api.Errno, api.Errno) { return x.Insert(v(id, n), nil), m.insert(v(id, n)) }
}

func deletes(id uint64) deed {
	return func(x *Table, m *model) (api.Errno, api.Errno) { return x.Delete(id, nil), m.delete(id) }
}

func bulks(pick int, l ...api.Item) deed {
	return func(x *Table, m *model) (api.Errno, api.Errno) {
		return x.Bulk(l, draws.New([]int{pick})), m.bulk(l, draws.New([]int{pick}))
	}
}

// All short rows of deeds.
func TestP222AllShort(t *testing.T) {
	deeds := []deed{
		inserts(1, 0), inserts(2, 0), inserts(1, 5), inserts(3, 7), deletes(1), deletes(2),
		bulks(0, v(1, 5), v(2, 7)), bulks(1, v(4, 0), v(2, 9), v(3, 9)), bulks(0),
	}
	for _, most := range []int{-1, 0, 1, 2, 3} {
		row := [4]int{}
		for row[3] < len(deeds) {
			meter := metric.New(api.L1)
			x, m := New(meter, most), newModel(api.L1, most)
			for _, i := range row {
				got, want := deeds[i](x, m)
				checkErrno(t, "a deed", got, want)
			}
			checkState(t, x, m)
			checkHits(t, "Near", 9, x.Near(vec(6), 9), m.all(vec(6)))
			for i := range row {
				row[i]++
				if row[i] < len(deeds) || i == 3 {
					break
				}
				row[i] = 0
			}
		}
	}
}

// The example of the chapter: of the things that are pivots, too, 9 alone is asked for again.
func TestP223Example(t *testing.T) {
	meter := metric.New(api.L1)
	x := New(meter, 1)
	x.Bulk([]api.Item{v(1, 0), v(2, 3), v(3, 9)}, nil)
	was := meter.Calls()
	checkHits(t, "Range", 2, x.Range(vec(8), 2), []api.Hit{{Id: 3, Dist: 1}})
	if asked := meter.Calls() - was; asked != 2 {
		t.Error("Range asks", asked, "times")
	}
	was = meter.Calls()
	checkHits(t, "Near", 1, x.Near(vec(8), 1), []api.Hit{{Id: 3, Dist: 1}})
	if asked := meter.Calls() - was; asked != 2 {
		t.Error("Near asks", asked, "times")
	}
}

// Just what Low doesn't tell to be too far is asked for, at the edge, too.
func TestP223RangeAtTheEdge(t *testing.T) {
	meter := metric.New(api.L1)
	x := New(meter, 1)
	x.Bulk([]api.Item{v(1, 0), v(2, 10), v(3, -10), v(4, 30)}, nil)
	for _, c := range []struct{ r, asked, found int }{
		{math.MinInt, 1, 0}, {-1, 1, 0}, {0, 1, 0}, {3, 1, 0}, {4, 3, 1}, {5, 3, 1}, {14, 4, 2}, {15, 4, 2}, {16, 5, 3}, {24, 5, 4}, {math.MaxInt, 5, 4},
	} {
		was := meter.Calls()
		l := x.Range(vec(14), c.r)
		if asked := meter.Calls() - was; asked != c.asked || len(l) != c.found {
			t.Errorf("Range of %d asks %d times, and finds %v, want %d and %d", c.r, asked, l, c.asked, c.found)
		}
	}
	// Pivots are asked for when all things are gone, too.
	for id := range uint64(5) {
		x.Delete(id, nil)
	}
	was := meter.Calls()
	if l := x.Range(vec(14), 100); len(l) != 0 || meter.Calls() != was+1 {
		t.Error(l, meter.Calls()-was)
	}
}

// A walk asks for what is near only, as long as nothing else is asked of it.
func TestP223WalkAsksAsItGoes(t *testing.T) {
	meter := metric.New(api.L1)
	x := New(meter, 1)
	var l []api.Item
	for i := range 100 {
		l = append(l, v(uint64(i), int32(i)))
	}
	x.Bulk(l, nil)
	was := meter.Calls()
	walk := x.Walk(vec(42))
	for _, want := range []api.Hit{{Id: 42}, {Id: 41, Dist: 1}, {Id: 43, Dist: 1}} {
		if h, ok := walk.Next(); h != want || !ok {
			t.Error(h, ok, want)
		}
	}
	if asked := meter.Calls() - was; asked > 4 {
		t.Error("a walk to what is near asks", asked, "times")
	}
	// Two walks, and other questions, don't disturb each other.
	other := x.Walk(vec(0))
	checkHits(t, "Near", 1, x.Near(vec(7), 1), []api.Hit{{Id: 7}})
	if h, _ := other.Next(); h != (api.Hit{}) {
		t.Error(h)
	}
	if h, _ := walk.Next(); h != (api.Hit{Id: 40, Dist: 2}) {
		t.Error(h)
	}
}

// Near leaves what may be no nearer than what it has, however many there are.
func TestP223NearLeaves(t *testing.T) {
	meter := metric.New(api.L1)
	x := New(meter, 1)
	var l []api.Item
	for i := range 1000 {
		l = append(l, v(uint64(i), int32(i)))
	}
	x.Bulk(l, nil)
	for k := range 5 {
		was := meter.Calls()
		x.Near(vec(500), k)
		if asked := meter.Calls() - was; asked > k+3 {
			t.Errorf("Near of %d asks %d times", k, asked)
		}
	}
}

// good is an image of three pivots and four rows, one of them of a thing that is a pivot.
func good() api.Image {
	return api.Image{
		Pivots: []api.Object{vec(0), vec(9), vec(4)},
		Rows: []api.Lr{
			{Item: v(2, 3), Row: []int{3, 6, 1}}, {Item: v(5, 9), Row: []int{9, 0, 5}},
			{Item: v(1<<63, 9), Row: []int{9, 0, 5}}, {Item: v(math.MaxUint64, -1), Row: []int{1, 10, 5}},
		},
	}
}

func TestP224Load(t *testing.T) {
	for _, most := range []int{3, 4, api.MaxPivots, math.MaxInt} {
		meter, m := metric.New(api.L1), newModel(api.L1, most)
		m.pivots = good().Pivots
		for _, row := range good().Rows {
			m.things[row.Item.Id] = row.Item.Obj
		}
		x := loaded(t, meter, most, good())
		checkState(t, x, m)
		checkAnswers(t, x, meter, m, vec(8))
		// It goes on as any table does: a pivot more comes just where there is room for it.
		checkErrno(t, "Insert", x.Insert(v(5, 1), nil), api.ErrDup)
		for _, deed := range []deed{inserts(7, 4), inserts(8, 77), deletes(5), bulks(0, v(5, 78), v(0, 9))} {
			got, want := deed(x, m)
			checkErrno(t, "a deed", got, want)
			checkState(t, x, m)
		}
	}
}

// Nothing at all, pivots alone, and things alone are images, too; most below 0 counts as 0.
func TestP224LoadOfLess(t *testing.T) {
	for _, most := range []int{math.MinInt, -1, 0, 1, 3} {
		for _, x := range []api.Image{{}, {Pivots: []api.Object{}, Rows: []api.Lr{}, Bk: []api.Bk{}, Vp: []api.Vp{}, Mn: []api.Mn{}}} {
			checkState(t, loaded(t, metric.New(api.L1), most, x), newModel(api.L1, most))
		}
		things := api.Image{Rows: []api.Lr{{Item: v(1, 5)}, {Item: v(2, 5), Row: []int{}}}}
		m := newModel(api.L1, most)
		m.things[1], m.things[2] = vec(5), vec(5)
		checkState(t, loaded(t, metric.New(api.L1), most, things), m)
	}
	m := newModel(api.L1, 3)
	m.pivots = good().Pivots
	checkState(t, loaded(t, metric.New(api.L1), 3, api.Image{Pivots: good().Pivots}), m)
}

func TestP224LoadOfWhatIsNone(t *testing.T) {
	for what, spoil := range map[string]func(x *api.Image){
		"Bk":                                 func(x *api.Image) { x.Bk = make([]api.Bk, 1) },
		"Vp":                                 func(x *api.Image) { x.Vp = make([]api.Vp, 1) },
		"Mn":                                 func(x *api.Image) { x.Mn = make([]api.Mn, 1) },
		"a Root":                             func(x *api.Image) { x.Root = 1 },
		"a Root below 0":                     func(x *api.Image) { x.Root = -1 },
		"a pivot twice":                      func(x *api.Image) { x.Pivots[2] = vec(9) },
		"a pivot twice, one between":         func(x *api.Image) { x.Pivots[2] = vec(0) },
		"a pivot less":                       func(x *api.Image) { x.Pivots = x.Pivots[:2] },
		"no pivots":                          func(x *api.Image) { x.Pivots = nil },
		"another pivot":                      func(x *api.Image) { x.Pivots[1] = vec(8) },
		"pivots in another order":            func(x *api.Image) { x.Pivots[0], x.Pivots[1] = x.Pivots[1], x.Pivots[0] },
		"one Id twice":                       func(x *api.Image) { x.Rows[1].Item.Id = 2 },
		"one Id twice, the last two":         func(x *api.Image) { x.Rows[2].Item.Id = math.MaxUint64 },
		"one Id twice, of one thing":         func(x *api.Image) { x.Rows[2].Item.Id = 5 },
		"Ids that fall":                      func(x *api.Image) { x.Rows[0], x.Rows[1] = x.Rows[1], x.Rows[0] },
		"Ids that fall at the end":           func(x *api.Image) { x.Rows[2], x.Rows[3] = x.Rows[3], x.Rows[2] },
		"a lesser Id behind":                 func(x *api.Image) { x.Rows[3].Item.Id = 0 },
		"another thing":                      func(x *api.Image) { x.Rows[0].Item.Obj = vec(4) },
		"another thing at the end":           func(x *api.Image) { x.Rows[3].Item.Obj = vec(1) },
		"a number that is less":              func(x *api.Image) { x.Rows[0].Row[0]-- },
		"a number that is greater":           func(x *api.Image) { x.Rows[3].Row[2]++ },
		"a number that is too great":         func(x *api.Image) { x.Rows[1].Row[1] = math.MaxInt },
		"a number below 0":                   func(x *api.Image) { x.Rows[0].Row[0] = -3 },
		"a Row without its last number":      func(x *api.Image) { x.Rows[1].Row = x.Rows[1].Row[:2] },
		"a Row with a number more":           func(x *api.Image) { x.Rows[1].Row = append(x.Rows[1].Row, 0) },
		"a Row with its last number twice":   func(x *api.Image) { x.Rows[3].Row = append(x.Rows[3].Row, 5) },
		"an empty Row":                       func(x *api.Image) { x.Rows[2].Row = nil },
		"a Row whose numbers changed places": func(x *api.Image) { x.Rows[0].Row = []int{6, 3, 1} },
	} {
		x := good()
		spoil(&x)
		was := plain(x)
		for range 2 {
			if table, e := Load(metric.New(api.L1), 3, x); table != nil || e != api.ErrCorrupt {
				t.Errorf("%s: %v, %d", what, table, e)
			}
			if table, e := Load(nil, 3, x); table != nil || e != api.ErrNil {
				t.Errorf("%s, of a nil meter: %v, %d", what, table, e)
			}
		}
		if !sameImage(x, was) {
			t.Errorf("%s: Load changed it", what)
		}
	}
}

// More than most pivots may not be, of things or without.
func TestP224LoadOfTooManyPivots(t *testing.T) {
	for _, most := range []int{math.MinInt, -1, 0, 1, 2} {
		for _, x := range []api.Image{good(), {Pivots: good().Pivots}} {
			if table, e := Load(metric.New(api.L1), most, x); table != nil || e != api.ErrCorrupt {
				t.Errorf("most %d: %v, %d", most, table, e)
			}
		}
	}
	one := api.Image{Pivots: []api.Object{vec(1)}}
	for most, want := range map[int]api.Errno{-1: api.ErrCorrupt, 0: api.ErrCorrupt, 1: api.OK, 2: api.OK} {
		_, e := Load(metric.New(api.L1), most, one)
		checkErrno(t, "Load of a pivot", e, want)
	}
}

// Two pivots that are 0 apart may not be, wherever they stand, be there no rows or such that tell just what is so.
func TestP224LoadOfPivotsThatAreOne(t *testing.T) {
	three := map[int][]api.Object{
		api.L1:  {vec(0), vec(9), vec(4)},
		api.Ham: {str("ab"), str("ba"), str("bb")},
		api.Lev: {str(""), str("ab"), str("b")},
	}
	for kind, pivots := range three {
		for first := range pivots {
			for again := range pivots {
				m := newModel(kind, 9)
				m.pivots = slices.Insert(slices.Clone(pivots), again, pivots[first])
				m.things[3], m.things[4] = pivots[1], pivots[first]
				for _, x := range []api.Image{{Pivots: m.pivots}, m.image()} {
					if table, e := Load(metric.New(kind), 9, x); table != nil || e != api.ErrCorrupt {
						t.Errorf("metric %d: of %v: %v, %d", kind, x, table, e)
					}
				}
				m.pivots = slices.Delete(m.pivots, again, again+1)
				checkState(t, loaded(t, metric.New(kind), 9, m.image()), m)
			}
		}
	}
}

// A nil meter goes ahead of all else, also where nothing is to be asked.
func TestP224LoadOfANilMeter(t *testing.T) {
	for _, x := range []api.Image{{}, good(), {Root: 1}, {Pivots: good().Pivots}} {
		for _, most := range []int{-1, 0, 3} {
			if table, e := Load(nil, most, x); table != nil || e != api.ErrNil {
				t.Error(table, e)
			}
		}
	}
}

func TestP225OfNil(t *testing.T) {
	var x *Table
	d := draws.New([]int{1})
	for range 2 {
		checkErrno(t, "Insert", x.Insert(v(1, 1), d), api.ErrNil)
		checkErrno(t, "Delete", x.Delete(1, d), api.ErrNil)
		checkErrno(t, "Bulk", x.Bulk([]api.Item{v(1, 1), v(2, 2)}, d), api.ErrNil)
		checkErrno(t, "Bulk of one Id twice", x.Bulk([]api.Item{v(1, 1), v(1, 2)}, d), api.ErrNil)
		checkErrno(t, "Bulk of nothing", x.Bulk(nil, nil), api.ErrNil)
		checkState(t, x, newModel(api.L1, 2))
		checkAnswers(t, x, metric.New(api.L1), newModel(api.L1, 2), vec(3))
	}
	walk := x.Walk(vec(3))
	if walk == nil || walk.Opened() != 0 || d.Used() != 0 {
		t.Error(walk, d.Used())
	}
}

// step does one thing of those that may be done to both.
func step(t *testing.T, x *Table, m *model, next func(below int) int) {
	t.Helper()
	id := func() uint64 { return uint64(next(30)) * 0x0842108421084210 }
	item := func() api.Item { return api.Item{Id: id(), Obj: thing(m.kind, next)} }
	switch next(7) {
	case 0, 1, 2:
		y := item()
		checkErrno(t, "Insert", x.Insert(y, nil), m.insert(y))
	case 3, 4, 5:
		y := id()
		checkErrno(t, "Delete", x.Delete(y, nil), m.delete(y))
	default:
		var l []api.Item
		for range next(6) {
			l = append(l, item())
		}
		picks := []int{next(100) - 50, next(100)}
		got, want := draws.New(picks), draws.New(picks)
		checkErrno(t, "Bulk", x.Bulk(l, got), m.bulk(l, want))
		if got.Used() != want.Used() {
			t.Fatalf("Bulk of %d uses %d, want %d", len(l), got.Used(), want.Used())
		}
	}
}

// Whatever is done, it answers as a scan does; and so does what is loaded of its image, which goes on in its place.
func TestP226Mixed(t *testing.T) {
	for _, kind := range metrics() {
		for _, most := range []int{-1, 0, 1, 2, 5, 50} {
			for seed := range uint64(6) {
				next := drawer(seed*77 + uint64(kind))
				meter := metric.New(kind)
				x, m := New(meter, most), newModel(kind, most)
				for range 60 {
					step(t, x, m, next)
					checkState(t, x, m)
					checkAnswers(t, x, meter, m, thing(kind, next))
					if next(10) == 0 {
						x = loaded(t, meter, most, x.Image())
					}
				}
			}
		}
	}
}

// Both of two tables, of which one is loaded, go on alike, and neither disturbs the other one.
func TestP226LoadedGoesOnAlike(t *testing.T) {
	for _, kind := range metrics() {
		next := drawer(uint64(kind))
		meter := metric.New(kind)
		x, m := New(meter, 4), newModel(kind, 4)
		for range 20 {
			step(t, x, m, next)
		}
		y, n := loaded(t, meter, 4, x.Image()), newModel(kind, 4)
		n.pivots = slices.Clone(m.pivots)
		for _, item := range m.items() {
			n.things[item.Id] = item.Obj
		}
		other := drawer(99)
		for range 40 {
			step(t, x, m, next)
			step(t, y, n, other)
			checkState(t, x, m)
			checkState(t, y, n)
			q := thing(kind, next)
			checkAnswers(t, x, meter, m, q)
			checkAnswers(t, y, meter, n, q)
		}
	}
}

// The greatest things, which are as far apart as right ones may be.
func TestP226TheGreatestThings(t *testing.T) {
	least := vec(slices.Repeat([]int32{math.MinInt32}, api.MaxSize)...)
	greatest := vec(slices.Repeat([]int32{math.MaxInt32}, api.MaxSize)...)
	middle := vec(make([]int32, api.MaxSize)...)
	long := func(s string) api.Object { return str(strings.Repeat(s, 400)) }
	for _, c := range []struct {
		kind   int
		things []api.Object
	}{
		{api.L1, []api.Object{least, middle, greatest, middle}},
		{api.Ham, []api.Object{long("ab"), long("ba"), long("aa"), long("ab")}},
		{api.Lev, []api.Object{long("ab"), long("ba"), long("aa"), str("")}},
	} {
		for _, most := range []int{0, 1, 2, 4} {
			meter := metric.New(c.kind)
			x, m := New(meter, most), newModel(c.kind, most)
			for i, y := range c.things {
				item := api.Item{Id: uint64(9 - i), Obj: y}
				x.Insert(item, nil)
				m.insert(item)
			}
			checkState(t, x, m)
			for _, q := range c.things {
				checkAnswers(t, x, meter, m, q)
			}
		}
	}
}

// As many things as an index may have.
func TestP226OfMany(t *testing.T) {
	const n = api.MaxObjects
	l := make([]api.Item, n)
	for i := range l {
		l[i] = v(uint64(n-i), int32(i))
	}
	meter := metric.New(api.L1)
	x := New(meter, 2)
	checkErrno(t, "Bulk", x.Bulk(l[:n-1], draws.New([]int{1000})), api.OK)
	checkErrno(t, "Insert", x.Insert(l[n-1], nil), api.OK)
	want := []api.Hit{{Id: n - 77}, {Id: n - 78, Dist: 1}, {Id: n - 76, Dist: 1}}
	checkHits(t, "Range", 1, x.Range(vec(77), 1), want)
	checkHits(t, "Near", 3, x.Near(vec(77), 3), want)
	checkHits(t, "Walk", 3, front.Take(x.Walk(vec(77)), 3), want)
	for i := range uint64(n - 1) {
		checkErrno(t, "Delete", x.Delete(i*7%n+1, nil), api.OK)
	}
	last := uint64(n-1)*7%n + 1
	if items := x.Items(); len(items) != 1 || items[0].Id != last {
		t.Error(len(items))
	}
	checkHits(t, "Near", 3, x.Near(vec(0), 3), []api.Hit{{Id: last, Dist: int(n - last)}})
}

// What isn't right, and a meter that is nil, or of no metric: each call ends, and none panics.
func TestR1WhatIsNoThing(t *testing.T) {
	wrong := []api.Object{
		{}, {Tag: 3, Vec: []int32{1}, Str: "a"}, {Tag: math.MinInt}, vec(), str(""), vec(math.MinInt32, math.MaxInt32), str("\xff\x00"),
		vec(slices.Repeat([]int32{math.MinInt32}, 5*api.MaxSize)...),
	}
	meters := []*metric.Meter{nil, metric.New(0), metric.New(math.MaxInt), metric.New(api.L1), metric.New(api.Ham), metric.New(api.Lev)}
	for _, meter := range meters {
		for _, most := range []int{math.MinInt, 0, 2, math.MaxInt} {
			x := New(meter, most)
			for i, y := range wrong {
				checkErrno(t, "Insert", x.Insert(api.Item{Id: uint64(len(wrong) - i), Obj: y}, nil), api.OK)
			}
			for _, q := range wrong {
				all := front.Take(x.Walk(q), math.MaxInt)
				if len(all) != len(wrong) || len(x.Items()) != len(wrong) {
					t.Fatal(len(all), len(x.Items()))
				}
				for k := range len(all) + 2 {
					checkHits(t, "Near", k, x.Near(q, k), all[:min(k, len(all))])
				}
				x.Range(q, 1)
			}
			x.Bulk([]api.Item{{Id: 100, Obj: wrong[2]}, {Id: 101}}, draws.New([]int{math.MinInt}))
			x.Delete(3, draws.New(nil))
			if meter != nil {
				loaded(t, meter, most, x.Image())
			}
		}
	}
}

// A walk behind a change ends, too.
func TestR1WalkBehindAChange(t *testing.T) {
	x := New(metric.New(api.L1), 2)
	for i := range 20 {
		x.Insert(v(uint64(i), int32(i)), nil)
	}
	walk := x.Walk(vec(3))
	walk.Next()
	for i := range 20 {
		x.Delete(uint64(i), nil)
	}
	x.Insert(v(50, 5), nil)
	if l := front.Take(walk, 1000); len(l) > 100 {
		t.Error(len(l))
	}
}

// What is handed in isn't changed, and is changed later without anything of the table changing.
func TestR3HandedIn(t *testing.T) {
	spoil := func(l []api.Item) {
		for i := range l {
			for k := range l[i].Obj.Vec {
				l[i].Obj.Vec[k] += 1000
			}
			l[i] = api.Item{}
		}
	}
	meter := metric.New(api.L1)
	x, m := New(meter, 3), newModel(api.L1, 3)
	l := []api.Item{v(5, 0), v(2, 3), v(9, 9)}
	x.Bulk(l, nil)
	m.bulk(l, nil)
	spoil(l)
	checkState(t, x, m)

	l = []api.Item{v(7, 20)}
	x.Insert(l[0], nil)
	m.insert(l[0])
	spoil(l)
	checkState(t, x, m)
	checkAnswers(t, x, meter, m, vec(8))

	q := vec(8)
	all := m.all(q)
	walk := x.Walk(q)
	walk.Next()
	q.Vec[0] = 1000
	checkHits(t, "Walk", 9, front.Take(walk, 9), all[1:])

	image := x.Image()
	y := loaded(t, meter, 3, image)
	for i := range image.Rows {
		spoil([]api.Item{image.Rows[i].Item})
		image.Rows[i].Row[0]++
	}
	clear(image.Rows)
	image.Pivots[0].Vec[0]++
	clear(image.Pivots)
	checkState(t, y, m)
	checkAnswers(t, y, meter, m, vec(8))
}

// What callers write into an answer, or behind it, changes nothing of the table, and of no other answer.
func TestR3Answered(t *testing.T) {
	x, m := New(metric.New(api.L1), 3), newModel(api.L1, 3)
	for i, n := range []int32{0, 3, 9, 9, 20} {
		x.Insert(v(uint64(i), n), nil)
		m.insert(v(uint64(i), n))
	}
	items, pivots, image, again := x.Items(), x.Pivots(), x.Image(), x.Image()
	for i := range items {
		items[i].Obj.Vec[0] += 100
		_ = append(items[i].Obj.Vec, 1)
	}
	for i := range pivots {
		pivots[i].Vec[0] += 200
	}
	checkState(t, x, m)
	for i := range image.Rows {
		image.Rows[i].Item.Obj.Vec[0] += 300
		image.Rows[i].Row[0] += 300
		_ = append(image.Rows[i].Row, 1)
		_ = append(image.Rows[i].Item.Obj.Vec, 1)
	}
	if image.Pivots[0].Vec[0] != 0 || image.Pivots[1].Vec[0] != 3 {
		t.Error("things of one image share memory:", image.Pivots)
	}
	clear(image.Pivots)
	checkState(t, x, m)
	if !sameImage(again, m.image()) {
		t.Error(again)
	}
	near := x.Near(vec(0), 3)
	clear(near)
	checkHits(t, "Near", 3, x.Near(vec(0), 3), m.all(vec(0))[:3])
}

// Questions change nothing that is asked later.
func TestR4AnswersAreTheSameAgain(t *testing.T) {
	meter := metric.New(api.Lev)
	x, m := New(meter, 3), newModel(api.Lev, 3)
	next := drawer(3)
	for i := range 200 {
		item := api.Item{Id: uint64(i), Obj: thing(api.Lev, next)}
		x.Insert(item, nil)
		m.insert(item)
	}
	for range 5 {
		was := meter.Calls()
		x.Near(str("ab"), 4)
		once := meter.Calls() - was
		x.Near(str("ab"), 4)
		if twice := meter.Calls() - was; twice != 2*once {
			t.Error("Near asks", once, "and", twice-once, "times")
		}
		checkAnswers(t, x, meter, m, str("abba"))
		checkState(t, x, m)
	}
}
