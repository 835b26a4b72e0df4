package vptree

import (
	"math"
	"slices"
	"testing"

	"waywiser/api"
	"waywiser/draws"
	"waywiser/front"
	"waywiser/metric"
)

// good is an image of two vantages with leaves of two things at most. One vantage is gone, with a number that is there, too.
func good() api.Image {
	return api.Image{Vp: []api.Vp{
		{Vantage: v(4, 10), Parent: -1, In: 1, Out: 2, InLow: 0, InHigh: 3, OutLow: 5, OutHigh: 38},
		{Leaf: true, Bucket: []api.Item{v(2, 13), v(9, 10)}},
		{Vantage: v(7, 50), Gone: true, Parent: 0, In: 3, Out: 4, InLow: 2, InHigh: 10, OutLow: 45, OutHigh: 45},
		{Leaf: true, Bucket: []api.Item{v(0, 48), v(math.MaxUint64, 40)}, Parent: 2},
		{Leaf: true, Bucket: []api.Item{v(7, 5)}, Parent: 2},
	}}
}

// loadedPair is what is loaded of an image, and its model.
func loadedPair(t *testing.T, kind, most int, x api.Image) *pair {
	t.Helper()
	meter := metric.New(kind)
	return &pair{meter, loaded(t, meter, most, x), modelOf(kind, max(most, 1), x.Vp)}
}

func TestP244Load(t *testing.T) {
	p := loadedPair(t, api.L1, 2, good())
	p.check(t, vec(8), vec(44))
	if x := p.x.Image(); !sameImage(x, good()) {
		t.Error(x)
	}
	// It goes on as any tree does.
	for _, deed := range []deed{
		inserts(4, 1), deletes(3), inserts(3, 50), inserts(5, 41), deletes(7), inserts(7, 7), deletes(4), inserts(4, -30), deletes(9), deletes(0), bulks(v(0, 50), v(6, 7)), deletes(7), deletes(2), deletes(5),
	} {
		deed(t, p)
		p.check(t, vec(8))
	}
}

// A leaf has as many as most at most, and below 1 most is 1.
func TestP244LoadOfMost(t *testing.T) {
	for _, c := range []struct {
		most int
		ok   bool
	}{
		{math.MinInt, false}, {0, false}, {1, false}, {2, true}, {3, true}, {math.MaxInt, true},
	} {
		_, e := Load(metric.New(api.L1), c.most, good())
		if (e == api.OK) != c.ok || !c.ok && e != api.ErrCorrupt {
			t.Error(c.most, e)
		}
	}
	one := good()
	one.Vp[1].Bucket, one.Vp[3].Bucket = one.Vp[1].Bucket[:1], one.Vp[3].Bucket[:1]
	for _, most := range mosts() {
		p := loadedPair(t, api.L1, most, one)
		p.check(t, vec(8))
		p.insert(t, v(1, 14), 1)
		p.insert(t, v(3, 10), 1)
		p.check(t, vec(8))
	}
}

// Nothing at all, and leaves alone, are images, too.
func TestP244LoadOfLess(t *testing.T) {
	for what, x := range map[string]api.Image{
		"nothing":                 {},
		"lists without anything":  {Bk: []api.Bk{}, Vp: []api.Vp{}, Mn: []api.Mn{}, Pivots: []api.Object{}, Rows: []api.Lr{}},
		"a leaf":                  {Vp: []api.Vp{{Leaf: true, Parent: -1, Bucket: []api.Item{v(3, 1), v(2, 1)}}}},
		"a leaf without things":   {Vp: []api.Vp{{Leaf: true, Parent: -1, Bucket: []api.Item{}}}},
		"a leaf of lists of none": {Vp: []api.Vp{{Leaf: true, Parent: -1, Vantage: api.Item{Obj: api.Object{Vec: []int32{}}}}}},
	} {
		t.Log(what)
		p := loadedPair(t, api.L1, 2, x)
		p.check(t, vec(3))
		p.insert(t, v(8, 3), 1)
		p.bulk(t, vs(6, 7), 1)
		p.check(t, vec(3))
	}
}

// Kids without things, vantages that are gone, and nodes in another order are all as is said.
func TestP244LoadOfOthers(t *testing.T) {
	for what, change := range map[string]func(x *api.Image){
		"a vantage alone": func(x *api.Image) {
			*x = api.Image{Vp: []api.Vp{{Vantage: v(1, 1), Parent: -1, In: 1, Out: 2}, {Leaf: true}, {Leaf: true}}}
		},
		"a kid without things": func(x *api.Image) {
			x.Vp[4].Bucket, x.Vp[2].OutLow, x.Vp[2].OutHigh = nil, 1, 0
		},
		"another one": func(x *api.Image) {
			x.Vp[1].Bucket, x.Vp[0].InLow, x.Vp[0].InHigh = nil, 1, 0
		},
		"ends farther than they must be": func(x *api.Image) {
			x.Vp[0].InHigh, x.Vp[0].OutLow, x.Vp[0].OutHigh = 7, 4, 1000
		},
		"a vantage that is gone, beyond the ends": func(x *api.Image) {
			x.Vp[2].Vantage.Obj, x.Vp[2].InLow, x.Vp[2].InHigh, x.Vp[2].OutLow, x.Vp[2].OutHigh = vec(1000), 952, 960, 995, 995
		},
		"a root that is gone": func(x *api.Image) {
			x.Vp[0].Gone, x.Vp[2].Gone, x.Vp[2].Vantage.Id, x.Vp[0].OutHigh = true, false, 1, 40
		},
		"both vantages there": func(x *api.Image) {
			x.Vp[2].Gone, x.Vp[2].Vantage.Id, x.Vp[0].OutHigh = false, 1, 40
		},
		"two of one Id, both gone": func(x *api.Image) {
			x.Vp = []api.Vp{
				{Vantage: v(1, 1), Gone: true, Parent: -1, In: 1, Out: 2, InHigh: 9, OutHigh: 9}, {Vantage: v(1, 2), Gone: true, In: 3, Out: 4, OutHigh: 9}, {Vantage: v(1, 3), In: 5, Out: 6},
				{Leaf: true, Parent: 1}, {Vantage: v(2, 1), Parent: 1, In: 7, Out: 8, InHigh: 9, OutHigh: 9}, {Leaf: true, Parent: 2}, {Leaf: true, Parent: 2}, {Leaf: true, Parent: 4}, {Leaf: true, Parent: 4},
			}
		},
		"Out ahead of In": func(x *api.Image) {
			x.Vp[1], x.Vp[2] = x.Vp[2], x.Vp[1]
			x.Vp[0].In, x.Vp[0].Out, x.Vp[3].Parent, x.Vp[4].Parent = 2, 1, 1, 1
		},
		"all of Out ahead of In": func(x *api.Image) {
			l := x.Vp
			x.Vp = []api.Vp{l[0], l[2], l[4], l[3], l[1]}
			x.Vp[0].In, x.Vp[0].Out, x.Vp[1].In, x.Vp[1].Out, x.Vp[2].Parent, x.Vp[3].Parent = 4, 1, 3, 2, 1, 1
		},
		"a vantage that is gone, and a zero thing": func(x *api.Image) {
			x.Vp[2].Vantage = api.Item{}
			x.Vp[2].InLow, x.Vp[2].InHigh, x.Vp[2].OutLow, x.Vp[2].OutHigh = 40, 48, 5, 5
		},
	} {
		t.Log(what)
		x := good()
		change(&x)
		was := plain(x)
		p := loadedPair(t, api.L1, 2, x)
		p.check(t, vec(8), vec(44))
		if !sameImage(x, was) {
			t.Error("Load changed it")
		}
		p.delete(t, 9)
		for i, n := range []int32{45, 6, 11, 13, 60, 50} {
			p.insert(t, v(uint64(77+i), n), 1)
			p.check(t, vec(8))
		}
		p.delete(t, 4, 2)
		p.check(t, vec(8))
	}
}

// Ends that are no distances are ends, too, where all that is below is between them.
func TestP244LoadOfOddEnds(t *testing.T) {
	for what, change := range map[string]func(x *api.Image){
		"ends of all numbers": func(x *api.Image) {
			x.Vp[0].InLow, x.Vp[0].InHigh, x.Vp[0].OutLow, x.Vp[0].OutHigh = -1, math.MaxInt, math.MinInt, math.MaxInt
		},
		"a distance and more": func(x *api.Image) {
			x.Vp[0].InHigh, x.Vp[2].OutHigh = api.MaxDist, api.MaxDist+1
		},
		"In without things, below 0": func(x *api.Image) {
			x.Vp[1].Bucket, x.Vp[0].InLow, x.Vp[0].InHigh = nil, math.MinInt, math.MinInt
		},
		"In without things, the other way round": func(x *api.Image) {
			x.Vp[1].Bucket, x.Vp[0].InLow, x.Vp[0].InHigh = nil, math.MaxInt, math.MinInt
		},
		"Out without things, above all": func(x *api.Image) {
			x.Vp[4].Bucket, x.Vp[2].OutLow, x.Vp[2].OutHigh = nil, math.MaxInt, math.MaxInt
		},
		"both without things": func(x *api.Image) {
			x.Vp[3].Bucket, x.Vp[4].Bucket = nil, nil
			x.Vp[2].InLow, x.Vp[2].InHigh, x.Vp[2].OutLow, x.Vp[2].OutHigh = 0, math.MinInt, math.MaxInt, -7
		},
	} {
		t.Log(what)
		x := good()
		change(&x)
		p := loadedPair(t, api.L1, 2, x)
		p.check(t, vec(8), vec(44))
		for i, n := range []int32{0, 10, 11, 50, -50, 30, math.MaxInt32, math.MinInt32} {
			item := v(uint64(77+i), n)
			checkErrno(t, "Insert", p.x.Insert(item, draws.New([]int{i})), api.OK)
			was := p.m.items()
			p.m = modelOf(api.L1, 2, p.x.Image().Vp)
			others := slices.DeleteFunc(p.m.items(), func(x api.Item) bool { return x.Id == item.Id })
			if !sameItems(others, was) || p.x.Len() != len(was)+1 {
				t.Fatal(p.m.items(), was)
			}
			p.check(t, vec(8), vec(44), vec(n))
			p.reload(t)
		}
	}
}

// checkCorrupt is that an image is none, and stays as it is.
func checkCorrupt(t *testing.T, what string, kind, most int, x api.Image) {
	t.Helper()
	was := plain(x)
	for range 2 {
		if tree, e := Load(metric.New(kind), most, x); tree != nil || e != api.ErrCorrupt {
			t.Errorf("%s: %v, %d", what, tree, e)
		}
		if tree, e := Load(nil, most, x); tree != nil || e != api.ErrNil {
			t.Errorf("%s, of a nil meter: %v, %d", what, tree, e)
		}
	}
	if !sameImage(x, was) {
		t.Errorf("%s: Load changed it", what)
	}
}

// checkSpoilt is that what each of some changes makes of a good image is none.
func checkSpoilt(t *testing.T, spoils map[string]func(x *api.Image)) {
	t.Helper()
	for what, spoil := range spoils {
		x := good()
		spoil(&x)
		checkCorrupt(t, what, api.L1, 2, x)
	}
}

func TestP244LoadOfWhatHasAnythingElse(t *testing.T) {
	checkSpoilt(t, map[string]func(x *api.Image){
		"Bk":             func(x *api.Image) { x.Bk = make([]api.Bk, 1) },
		"Mn":             func(x *api.Image) { x.Mn = make([]api.Mn, 1) },
		"a Root":         func(x *api.Image) { x.Root = 1 },
		"a Root below 0": func(x *api.Image) { x.Root = -1 },
		"Pivots":         func(x *api.Image) { x.Pivots = make([]api.Object, 1) },
		"Rows":           func(x *api.Image) { x.Rows = make([]api.Lr, 1) },
		"Rows alone":     func(x *api.Image) { *x = api.Image{Rows: make([]api.Lr, 1)} },
		"a Root alone":   func(x *api.Image) { *x = api.Image{Root: 1} },
	})
}

func TestP244LoadOfWhatIsNoTree(t *testing.T) {
	leaf := api.Vp{Leaf: true}
	checkSpoilt(t, map[string]func(x *api.Image){
		"no root":                              func(x *api.Image) { x.Vp = x.Vp[1:] },
		"the last one missing":                 func(x *api.Image) { x.Vp = x.Vp[:4] },
		"the root alone":                       func(x *api.Image) { x.Vp = x.Vp[:1] },
		"a root with itself as Parent":         func(x *api.Image) { x.Vp[0].Parent = 0 },
		"a root with a Parent behind":          func(x *api.Image) { x.Vp[0].Parent = 1 },
		"a root with a Parent far below":       func(x *api.Image) { x.Vp[0].Parent = -2 },
		"a leaf with a Parent as a root":       func(x *api.Image) { x.Vp = []api.Vp{leaf} },
		"a second root":                        func(x *api.Image) { x.Vp[1].Parent = -1 },
		"a second root behind all":             func(x *api.Image) { x.Vp = append(x.Vp, api.Vp{Leaf: true, Parent: -1}) },
		"itself as its Parent":                 func(x *api.Image) { x.Vp[2].Parent = 2 },
		"a Parent behind":                      func(x *api.Image) { x.Vp[1].Parent = 2 },
		"a Parent that isn't there":            func(x *api.Image) { x.Vp[4].Parent = 5 },
		"a Parent above all":                   func(x *api.Image) { x.Vp[4].Parent = math.MaxInt },
		"a Parent below all":                   func(x *api.Image) { x.Vp[4].Parent = math.MinInt },
		"a leaf as its Parent":                 func(x *api.Image) { x.Vp[4].Parent = 3 },
		"another node as its Parent":           func(x *api.Image) { x.Vp[3].Parent = 0 },
		"one that is no node's kid":            func(x *api.Image) { x.Vp = append(x.Vp, leaf) },
		"no In":                                func(x *api.Image) { x.Vp[0].In = -1 },
		"In far below":                         func(x *api.Image) { x.Vp[0].In = math.MinInt },
		"itself as In":                         func(x *api.Image) { x.Vp[0].In = 0 },
		"itself as Out":                        func(x *api.Image) { x.Vp[2].Out = 2 },
		"In ahead":                             func(x *api.Image) { x.Vp[2].In = 1 },
		"the root as Out":                      func(x *api.Image) { x.Vp[2].Out = 0 },
		"In that isn't there":                  func(x *api.Image) { x.Vp[0].In = 5 },
		"Out that isn't there":                 func(x *api.Image) { x.Vp[2].Out = 5 },
		"Out above all":                        func(x *api.Image) { x.Vp[0].Out = math.MaxInt },
		"one node as In and Out":               func(x *api.Image) { x.Vp[0].In = 2 },
		"one node as Out and In":               func(x *api.Image) { x.Vp[2].Out = 3 },
		"the In of two":                        func(x *api.Image) { x.Vp[0].In = 3 },
		"the Out of two":                       func(x *api.Image) { x.Vp[0].Out, x.Vp[2].Parent = 4, 0 },
		"In and Out changed":                   func(x *api.Image) { x.Vp[0].In, x.Vp[0].Out = 2, 1 },
		"In and Out changed, below":            func(x *api.Image) { x.Vp[2].In, x.Vp[2].Out = 4, 3 },
		"no leaf, and no kids":                 func(x *api.Image) { x.Vp[4] = api.Vp{Parent: 2, Vantage: v(7, 5)} },
		"a leaf that is told to be none":       func(x *api.Image) { x.Vp[4].Leaf = false },
		"a vantage that is told a leaf":        func(x *api.Image) { x.Vp[2].Leaf = true },
		"a root that is told a leaf":           func(x *api.Image) { x.Vp[0].Leaf = true },
		"one node as the only kid, In and Out": func(x *api.Image) { *x = onLine(); x.Vp[0].Out, x.Vp = 1, x.Vp[:2] },
		"one node as the In of two": func(x *api.Image) {
			x.Vp[1] = api.Vp{Vantage: v(2, 13), In: 3, Out: 5}
			x.Vp = append(x.Vp, api.Vp{Leaf: true, Parent: 1})
		},
		"one node as the Out of two": func(x *api.Image) {
			x.Vp[1] = api.Vp{Vantage: v(2, 13), In: 5, Out: 4}
			x.Vp = append(x.Vp, api.Vp{Leaf: true, Parent: 1})
		},
		"one node as the In of one, and the Out of another one": func(x *api.Image) {
			x.Vp[1] = api.Vp{Vantage: v(2, 13), In: 5, Out: 3, OutHigh: 40}
			x.Vp = append(x.Vp, api.Vp{Leaf: true, Parent: 1})
		},
		"two trees": func(x *api.Image) {
			x.Vp = append(x.Vp, api.Vp{Vantage: v(80, 1), Parent: 5, In: 6, Out: 7}, api.Vp{Leaf: true, Parent: 5}, api.Vp{Leaf: true, Parent: 5})
		},
		"a Bucket of one that is no leaf":   func(x *api.Image) { x.Vp[0].Bucket = []api.Item{v(80, 1)} },
		"a Bucket of one that is gone":      func(x *api.Image) { x.Vp[2].Bucket = []api.Item{v(80, 20)} },
		"too many in a Bucket":              func(x *api.Image) { x.Vp[1].Bucket = append(x.Vp[1].Bucket, v(80, 11)) },
		"too many in another Bucket":        func(x *api.Image) { x.Vp[4].Bucket = []api.Item{v(7, 5), v(80, 5), v(81, 5)} },
		"a leaf with a vantage":             func(x *api.Image) { x.Vp[1].Vantage = v(80, 11) },
		"a leaf with a vantage's number":    func(x *api.Image) { x.Vp[3].Vantage.Id = 80 },
		"a leaf with a vantage's tag":       func(x *api.Image) { x.Vp[3].Vantage.Obj.Tag = api.TagVec },
		"a leaf with a vantage's Vec":       func(x *api.Image) { x.Vp[3].Vantage.Obj.Vec = []int32{0} },
		"a leaf with a vantage's Str":       func(x *api.Image) { x.Vp[3].Vantage.Obj.Str = "\x00" },
		"a leaf with a vantage that's gone": func(x *api.Image) { x.Vp[1].Gone = true },
		"a leaf with In":                    func(x *api.Image) { x.Vp[1].In = 3 },
		"a leaf with Out":                   func(x *api.Image) { x.Vp[1].Out = -1 },
		"a leaf with InLow":                 func(x *api.Image) { x.Vp[4].InLow = 1 },
		"a leaf with InHigh":                func(x *api.Image) { x.Vp[4].InHigh = 1 },
		"a leaf with OutLow":                func(x *api.Image) { x.Vp[4].OutLow = 1 },
		"a leaf with OutHigh":               func(x *api.Image) { x.Vp[4].OutHigh = -1 },
	})
}

func TestP244LoadOfWhatIsNotBetweenTheEnds(t *testing.T) {
	checkSpoilt(t, map[string]func(x *api.Image){
		"InLow above one":                              func(x *api.Image) { x.Vp[0].InLow = 1 },
		"InHigh below one":                             func(x *api.Image) { x.Vp[0].InHigh = 2 },
		"InHigh below all":                             func(x *api.Image) { x.Vp[0].InHigh = -1 },
		"OutLow above one":                             func(x *api.Image) { x.Vp[0].OutLow = 6 },
		"OutHigh below one":                            func(x *api.Image) { x.Vp[0].OutHigh = 37 },
		"OutLow above all":                             func(x *api.Image) { x.Vp[0].OutLow = math.MaxInt },
		"InLow above one, below":                       func(x *api.Image) { x.Vp[2].InLow = 3 },
		"InHigh below one, below":                      func(x *api.Image) { x.Vp[2].InHigh = 9 },
		"OutLow above one, below":                      func(x *api.Image) { x.Vp[2].OutLow = 46 },
		"OutHigh below one, below":                     func(x *api.Image) { x.Vp[2].OutHigh = 44 },
		"ends the other way round":                     func(x *api.Image) { x.Vp[0].InLow, x.Vp[0].InHigh = 3, 0 },
		"another thing of In":                          func(x *api.Image) { x.Vp[1].Bucket[1] = v(9, 6) },
		"another thing of Out":                         func(x *api.Image) { x.Vp[4].Bucket[0] = v(7, 4) },
		"a thing that is too far from the root alone":  func(x *api.Image) { x.Vp[3].Bucket[0] = v(0, 52) },
		"a thing that is too near to the root alone":   func(x *api.Image) { x.Vp[2].OutLow, x.Vp[4].Bucket[0] = 35, v(7, 14) },
		"a thing that is too near to what is gone":     func(x *api.Image) { x.Vp[3].Bucket[0] = v(0, 49) },
		"another root":                                 func(x *api.Image) { x.Vp[0].Vantage.Obj = vec(9) },
		"another vantage that is gone":                 func(x *api.Image) { x.Vp[2].Vantage.Obj = vec(51) },
		"a vantage that is too far":                    func(x *api.Image) { x.Vp[2].Gone, x.Vp[2].Vantage.Id = false, 80 },
		"a thing where there were none":                func(x *api.Image) { x.Vp[1].Bucket = []api.Item{v(2, 13), v(9, 14)} },
		"a kid of one thing, with the ends of no kids": func(x *api.Image) { x.Vp[2].OutLow, x.Vp[2].OutHigh = 1, 0 },
	})
}

func TestP244LoadOfOneIdTwiceOrMoreThanHalfGone(t *testing.T) {
	checkSpoilt(t, map[string]func(x *api.Image){
		"one Id twice in a Bucket":            func(x *api.Image) { x.Vp[1].Bucket[1].Id = 2 },
		"one Id in two Buckets":               func(x *api.Image) { x.Vp[4].Bucket[0].Id = 0 },
		"one Id in a Bucket, and as vantage":  func(x *api.Image) { x.Vp[4].Bucket[0].Id = 4 },
		"one Id as vantages":                  func(x *api.Image) { x.Vp[2].Gone, x.Vp[2].Vantage.Id, x.Vp[0].OutHigh = false, 4, 40 },
		"one Id twice, as none is gone":       func(x *api.Image) { x.Vp[2].Gone, x.Vp[0].OutHigh = false, 40 },
		"one Id twice, of one thing":          func(x *api.Image) { x.Vp[1].Bucket[0] = x.Vp[1].Bucket[1] },
		"all vantages gone":                   func(x *api.Image) { x.Vp[0].Gone = true },
		"the only vantage gone, with leaves":  func(x *api.Image) { *x = onLine(); x.Vp[0].Gone = true },
		"the only vantage gone, without them": func(x *api.Image) { *x = onLine(); x.Vp[0].Gone = true; x.Vp[1].Bucket, x.Vp[2].Bucket = nil, nil },
		"two of three vantages gone": func(x *api.Image) {
			x.Vp[0].Gone = true
			x.Vp[1] = api.Vp{Vantage: v(2, 13), In: 5, Out: 6}
			x.Vp = append(x.Vp, api.Vp{Leaf: true, Parent: 1}, api.Vp{Leaf: true, Parent: 1})
		},
	})
}

// right is the document's words on what an image may be, held against each node and all above it.
func right(kind, most int, l []api.Vp) bool {
	gone, vantages := 0, 0
	ids := map[uint64]int{}
	parents := make([]int, len(l))
	for at, n := range l {
		if at == 0 && n.Parent != -1 || at > 0 && (n.Parent < 0 || n.Parent >= at) {
			return false
		}
		things := n.Bucket
		if n.Leaf {
			n.Leaf, n.Bucket, n.Parent = false, nil, 0
			if !sameImage(api.Image{Vp: []api.Vp{n}}, api.Image{Vp: make([]api.Vp, 1)}) || len(things) > max(most, 1) {
				return false
			}
		} else {
			vantages++
			if len(n.Bucket) > 0 || n.In == n.Out || n.In <= at || n.Out <= at || n.In >= len(l) || n.Out >= len(l) {
				return false
			}
			for _, kid := range []int{n.In, n.Out} {
				parents[kid]++
				if l[kid].Parent != at {
					return false
				}
			}
			things = []api.Item{n.Vantage}
			if n.Gone {
				gone++
				things = nil
			}
		}
		for _, x := range things {
			ids[x.Id]++
			if ids[x.Id] > 1 {
				return false
			}
			for low := at; low > 0; low = l[low].Parent {
				up := l[l[low].Parent]
				far := metric.Dist(kind, x.Obj, up.Vantage.Obj)
				if low == up.In && (far < up.InLow || far > up.InHigh) || low == up.Out && (far < up.OutLow || far > up.OutHigh) || low != up.In && low != up.Out {
					return false
				}
			}
		}
	}
	for at, n := range parents {
		if at > 0 && n != 1 {
			return false
		}
	}
	return 2*gone <= vantages
}

// Each field of each node as any of some others: it is loaded just if it may be.
func TestP244LoadOfWhatIsNearlyOne(t *testing.T) {
	refused, taken := 0, 0
	for _, kind := range metrics() {
		next := drawer(uint64(kind))
		p := newPair(kind, 2)
		for range 40 {
			step(t, p, next)
		}
		for p.x.Gone() == 0 || p.x.Len() < 12 {
			step(t, p, next)
		}
		whole := p.x.Image()
		for range 4000 {
			x := plain(whole)
			for range 1 + next(2) {
				n := &x.Vp[next(len(x.Vp))]
				fields := []*int{&n.InLow, &n.InHigh, &n.OutLow, &n.OutHigh, &n.InLow, &n.OutHigh, &n.In, &n.Out, &n.Parent}
				switch field := next(len(fields) + 7); {
				case field < 6:
					*fields[field] = next(9)
				case field < len(fields):
					*fields[field] = next(len(x.Vp)+3) - 2
				case field == len(fields):
					n.Gone = !n.Gone
				case field == len(fields)+1:
					n.Leaf = !n.Leaf
				case field == len(fields)+2:
					n.Bucket = append(n.Bucket, api.Item{Id: uint64(next(30)), Obj: thing(kind, next)})
				case len(n.Bucket) == 0:
					n.Vantage = api.Item{Id: uint64(next(30)), Obj: thing(kind, next)}
				case field == len(fields)+3:
					n.Bucket = n.Bucket[1:]
				case field == len(fields)+4:
					n.Bucket[0].Id = uint64(next(30))
				default:
					n.Bucket[0].Obj = thing(kind, next)
				}
			}
			if !right(kind, 2, x.Vp) {
				refused++
				checkCorrupt(t, "another field", kind, 2, x)
				continue
			}
			taken++
			o := loadedPair(t, kind, 2, x)
			o.check(t, thing(kind, next))
			step(t, o, next)
			o.check(t, thing(kind, next))
		}
	}
	if refused < 1000 || taken < 1000 {
		t.Error(refused, taken)
	}
}

// Things, and what is asked for, that aren't right: what is loaded answers by how far the meter tells they are.
func TestP244LoadOfWhatIsNoThing(t *testing.T) {
	const greatest = math.MaxInt32
	wrong := []api.Object{
		{}, {Tag: 3, Vec: []int32{1}, Str: "a"}, {Tag: math.MinInt, Str: "ab"}, vec(), vec(1), vec(1, 0, 0), vec(1, 0, 7), str(""), str("\xff\x00"), str("aba"), str("ab"), {Tag: api.TagStr, Vec: []int32{greatest, -greatest}, Str: "bb"},
		// Farther from others than distances are.
		vec(slices.Repeat([]int32{math.MinInt32}, 5*api.MaxSize)...), vec(slices.Repeat([]int32{greatest}, 5*api.MaxSize)...), vec(slices.Repeat([]int32{greatest}, api.MaxSize)...),
	}
	far := metric.Dist(api.L1, wrong[12], wrong[13])
	if far <= api.MaxDist {
		t.Fatal(far)
	}
	for _, kind := range []int{0, api.L1, api.Ham, api.Lev, math.MaxInt} {
		for first := range 2 {
			m := newModel(kind, 1)
			var l []api.Item
			for i := range 2 * len(wrong) {
				l = append(l, api.Item{Id: uint64(99 - i), Obj: wrong[i*7%len(wrong)]})
			}
			d := draws.New([]int{12 + first, 5, first})
			m.build(l, d)
			for _, n := range slices.Concat(m.levels()...) {
				if gone, all := m.vantages(); !n.leaf && 2*gone+2 <= all {
					m.delete(n.vantage.Id, d)
				}
			}
			image := m.image()
			meter := metric.New(kind)
			x := loaded(t, meter, 1, image)
			checkState(t, x, m)
			most := x.Len() + x.Gone()
			for _, q := range wrong {
				all := m.all(q)
				for _, r := range []int{0, 3, api.MaxDist - 1, api.MaxDist, far - 1, far} {
					was := meter.Calls()
					checkHits(t, "Range", r, x.Range(q, r), within(all, r))
					if asked := meter.Calls() - was; asked > most {
						t.Error(asked, most)
					}
				}
				checkHits(t, "Near", 7, x.Near(q, 7), all[:7])
				checkHits(t, "Walk", len(all), front.Take(x.Walk(q), math.MaxInt), all)
			}
		}
	}
}

// A nil meter goes ahead of all else, also where nothing is to be asked.
func TestP244LoadOfANilMeter(t *testing.T) {
	for _, x := range []api.Image{{}, good(), {Root: 1}, {Vp: good().Vp[:1]}, onLine()} {
		if tree, e := Load(nil, 2, x); tree != nil || e != api.ErrNil {
			t.Error(tree, e)
		}
	}
}
