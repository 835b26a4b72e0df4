package vptree

import (
	"math"
	"slices"
	"strings"
	"testing"

	"waywiser/api"
	"waywiser/draws"
	"waywiser/front"
	"waywiser/metric"
)

// numbers are the Ids and the numbers of items of vectors of one number.
func numbers(l []api.Item) [][2]int {
	var told [][2]int
	for _, x := range l {
		told = append(told, [2]int{int(x.Id), int(x.Obj.Vec[0])})
	}
	return told
}

// checkBucket holds the things of a node against those that are wanted, in their order.
func checkBucket(t *testing.T, n api.Vp, want ...api.Item) {
	t.Helper()
	if !n.Leaf || !sameItems(n.Bucket, want) {
		t.Fatalf("Leaf %t, Bucket %v, want %v", n.Leaf, numbers(n.Bucket), numbers(want))
	}
}

// checkVantage holds a node that is no leaf against what is wanted.
func checkVantage(t *testing.T, n api.Vp, x api.Item, parent, in, out int, ends ...int) {
	t.Helper()
	if n.Leaf || !sameItems([]api.Item{n.Vantage}, []api.Item{x}) || n.Parent != parent || n.In != in || n.Out != out || !slices.Equal([]int{n.InLow, n.InHigh, n.OutLow, n.OutHigh}, ends) {
		t.Fatalf("%v; want the vantage %v, Parent %d, In %d, Out %d, ends %v", n, x, parent, in, out, ends)
	}
}

// As many as a leaf may have are one; of one more there is a vantage.
func TestP241BuiltOfALeafOrNot(t *testing.T) {
	for _, most := range mosts() {
		for n := range 10 {
			for _, at := range []int{0, 1, 5, -1} {
				p := newPair(api.L1, most)
				p.bulk(t, vs(3, 9, 9, 0, 5, 5, 5, 1, 8, 2)[:n], at)
				p.check(t, vec(4))
				leaf := n <= max(most, 1)
				if l := p.x.Image().Vp; n > 0 && (l[0].Leaf != leaf || leaf != (len(l) == 1)) || n == 0 && len(l) != 0 {
					t.Errorf("most %d: of %d: %v", most, n, l)
				}
			}
		}
	}
}

// Which thing is the vantage is picked; the others are halved as they stand, of an odd number the greater half is Out.
func TestP241Built(t *testing.T) {
	l := vs(10, 13, 4, 10, 17, 10)
	for _, c := range []struct {
		at, vantage int
		in, out     []int
		ends        []int
	}{
		{0, 0, []int{3, 5}, []int{1, 2, 4}, []int{0, 0, 3, 7}},
		{1, 1, []int{0, 3}, []int{2, 4, 5}, []int{3, 3, 3, 9}},
		{2, 2, []int{0, 3}, []int{1, 4, 5}, []int{6, 6, 6, 13}},
		{4, 4, []int{0, 1}, []int{2, 3, 5}, []int{4, 7, 7, 13}},
		{-1, 5, []int{0, 3}, []int{1, 2, 4}, []int{0, 0, 3, 7}},
		{8, 2, []int{0, 3}, []int{1, 4, 5}, []int{6, 6, 6, 13}},
	} {
		x := New(metric.New(api.L1), 3)
		d := draws.New([]int{c.at})
		checkErrno(t, "Bulk", x.Bulk(l, d), api.OK)
		image := x.Image().Vp
		if len(image) != 3 || d.Used() != 1 {
			t.Fatal(image, d.Used())
		}
		checkVantage(t, image[0], l[c.vantage], -1, 1, 2, c.ends...)
		for i, half := range [][]int{c.in, c.out} {
			var want []api.Item
			for _, at := range half {
				want = append(want, l[at])
			}
			checkBucket(t, image[1+i], want...)
			if image[1+i].Parent != 0 {
				t.Error(image[1+i])
			}
		}
	}
}

// All of In is picked ahead of what is picked of Out; of one thing In has none, and Out that one.
func TestP241BuiltInAheadOfOut(t *testing.T) {
	x := New(metric.New(api.L1), 1)
	l := vs(0, 1, 2, 3, 10, 11, 12, 13)
	d := draws.New([]int{0, 1, 0, 3, 1, 0, 5})
	checkErrno(t, "Bulk", x.Bulk(l, d), api.OK)
	image := x.Image().Vp
	// Picked are the place 0 of all, 1 of 1, 2 and 3, 0 of 10 to 13, and, as 3 is 1 but for a multiple of 2, 1 of 12 and 13.
	checkVantage(t, image[0], l[0], -1, 1, 2, 1, 3, 10, 13)
	checkVantage(t, image[1], l[2], 0, 3, 4, 1, 1, 1, 1)
	checkVantage(t, image[2], l[4], 0, 5, 6, 1, 1, 2, 3)
	checkBucket(t, image[3], l[1])
	checkBucket(t, image[4], l[3])
	checkBucket(t, image[5], l[5])
	checkVantage(t, image[6], l[7], 2, 7, 8, 1, 0, 1, 1)
	checkBucket(t, image[7])
	checkBucket(t, image[8], l[6])
	if len(image) != 9 || d.Used() != 4 || x.Depth() != 4 {
		t.Error(image, d.Used(), x.Depth())
	}
}

// Without nodes, and what it answers asks for nothing.
func TestP242New(t *testing.T) {
	for _, kind := range metrics() {
		for _, most := range mosts() {
			p := newPair(kind, most)
			p.check(t, vec(3))
			p.delete(t, 0)
			p.check(t)
			if p.meter.Calls() != 0 {
				t.Error("of nothing it asks", p.meter.Calls())
			}
		}
	}
}

// The example of the chapter: up to most there is a leaf, one more makes three nodes of it.
func TestP242InsertIntoALeaf(t *testing.T) {
	p := newPair(api.L1, 4)
	for i, x := range vs(0, 3, 9, 1) {
		p.insert(t, x, 2)
		p.check(t, vec(3))
		checkBucket(t, p.x.Image().Vp[0], vs(0, 3, 9, 1)[:i+1]...)
	}
	if p.x.Depth() != 1 {
		t.Error(p.x.Depth())
	}
	p.insert(t, v(4, 5), 2)
	p.check(t, vec(3))
	l := p.x.Image().Vp
	checkVantage(t, l[0], v(2, 9), -1, 1, 2, 4, 6, 8, 9)
	checkBucket(t, l[1], v(1, 3), v(4, 5))
	checkBucket(t, l[2], v(0, 0), v(3, 1))
}

// onLine is an image of a vantage at 0, with things 3 and 5 below In, and 10 and 20 below Out.
func onLine() api.Image {
	return api.Image{Vp: []api.Vp{
		{Vantage: v(90, 0), Parent: -1, In: 1, Out: 2, InLow: 3, InHigh: 5, OutLow: 10, OutHigh: 20},
		{Leaf: true, Bucket: []api.Item{v(93, 3), v(95, -5)}},
		{Leaf: true, Bucket: []api.Item{v(96, 10), v(97, -20)}},
	}}
}

// onLineGone is as that, but for the vantage, which is gone, and one more below Out.
func onLineGone() api.Image {
	x := onLine()
	x.Vp[0].Gone = true
	x.Vp[2] = api.Vp{Vantage: v(96, 10), In: 3, Out: 4, InLow: 1, OutLow: 30, OutHigh: 30}
	x.Vp = append(x.Vp, api.Vp{Leaf: true, Parent: 2}, api.Vp{Leaf: true, Parent: 2, Bucket: []api.Item{v(97, -20)}})
	return x
}

// Which kid is next is told by how far x is and the ends; those of that one are widened, and no others.
func TestP242InsertBelowAVantage(t *testing.T) {
	for _, c := range []struct {
		n    int32
		in   bool
		ends []int
	}{
		{0, true, []int{0, 5, 10, 20}}, {2, true, []int{2, 5, 10, 20}}, {-3, true, []int{3, 5, 10, 20}}, {4, true, []int{3, 5, 10, 20}}, {5, true, []int{3, 5, 10, 20}},
		{6, true, []int{3, 6, 10, 20}}, {-7, true, []int{3, 7, 10, 20}}, {8, false, []int{3, 5, 8, 20}}, {-9, false, []int{3, 5, 9, 20}},
		{10, false, []int{3, 5, 10, 20}}, {15, false, []int{3, 5, 10, 20}}, {20, false, []int{3, 5, 10, 20}}, {-21, false, []int{3, 5, 10, 21}}, {1000, false, []int{3, 5, 10, 1000}},
	} {
		for _, image := range []api.Image{onLine(), onLineGone()} {
			x := loaded(t, metric.New(api.L1), 9, image)
			d := draws.New([]int{1})
			checkErrno(t, "Insert", x.Insert(v(7, c.n), d), api.OK)
			root, in := x.Image().Vp[0], x.Image().Vp[1].Bucket
			checkVantage(t, root, v(90, 0), -1, 1, 2, c.ends...)
			if at := slices.IndexFunc(in, func(x api.Item) bool { return x.Id == 7 }); c.in && at != 2 || !c.in && at >= 0 {
				t.Errorf("%d stands at %d below In", c.n, at)
			}
			if x.Len() != len(loaded(t, metric.New(api.L1), 9, image).Items())+1 || d.Used() != 0 {
				t.Error(x.Len(), d.Used())
			}
		}
	}
}

// Ends may meet, or lie in one another: In is asked first, whatever Out's are.
func TestP242InsertWhereEndsMeet(t *testing.T) {
	for _, c := range []struct {
		n    int32
		in   bool
		ends []int
	}{
		{7, true, []int{3, 12, 10, 20}}, {10, true, []int{3, 12, 10, 20}}, {11, true, []int{3, 12, 10, 20}}, {-12, true, []int{3, 12, 10, 20}}, {13, false, []int{3, 12, 10, 20}}, {25, false, []int{3, 12, 10, 25}},
	} {
		image := onLine()
		image.Vp[1].Bucket[1] = v(95, 12)
		image.Vp[0].InHigh = 12
		p := &pair{metric.New(api.L1), nil, modelOf(api.L1, 9, image.Vp)}
		p.x = loaded(t, p.meter, 9, image)
		p.insert(t, v(7, c.n))
		p.check(t, vec(c.n))
		checkVantage(t, p.x.Image().Vp[0], v(90, 0), -1, 1, 2, c.ends...)
		if at := slices.IndexFunc(p.x.Image().Vp[1].Bucket, func(x api.Item) bool { return x.Id == 7 }); (at == 2) != c.in {
			t.Error(c.n, at)
		}
	}
}

// Of a kid that nothing is below yet the ends are 1 and 0, and just how far x is then.
func TestP242InsertBelowAKidWithoutThings(t *testing.T) {
	for _, c := range []struct {
		n    int32
		ends []int
	}{
		{0, []int{0, 0, 8, 8}}, {1, []int{1, 1, 8, 8}}, {4, []int{4, 4, 8, 8}}, {5, []int{1, 0, 5, 8}}, {8, []int{1, 0, 8, 8}}, {9, []int{1, 0, 8, 9}},
	} {
		p := newPair(api.L1, 1)
		p.bulk(t, vs(0, 8))
		checkVantage(t, p.x.Image().Vp[0], v(0, 0), -1, 1, 2, 1, 0, 8, 8)
		p.insert(t, v(7, c.n))
		p.check(t, vec(4))
		n := p.x.Image().Vp[0]
		if ends := []int{n.InLow, n.InHigh, n.OutLow, n.OutHigh}; !slices.Equal(ends, c.ends) {
			t.Errorf("behind %d: %v, want %v", c.n, ends, c.ends)
		}
	}
}

// With a number that is there, as a vantage or in a leaf, nothing changes, and nothing is asked.
func TestP242InsertOfOneThatIsThere(t *testing.T) {
	for _, id := range []uint64{0, 7, 1 << 63, math.MaxUint64} {
		for first := range 3 {
			p := newPair(api.L1, 1)
			for i := range 3 {
				x := v(uint64(20+i), int32(i))
				if i == first {
					x.Id = id
				}
				p.insert(t, x, 1)
			}
			was := p.meter.Calls()
			for _, n := range []int32{5, 6, math.MinInt32} {
				if e := p.insert(t, v(id, n), 1); e != api.ErrDup {
					t.Error(e)
				}
				p.check(t)
			}
			if p.meter.Calls() != was {
				t.Error("it asks", p.meter.Calls()-was)
			}
		}
	}
}

// A thing that is gone isn't there: its number may come again, with the same thing or another one, and go again.
func TestP242InsertOfOneThatIsGone(t *testing.T) {
	p := newPair(api.L1, 1)
	p.bulk(t, vs(5, 6, 7, 8, 9, 1, 2), 0)
	if id := p.x.Image().Vp[0].Vantage.Id; id != 0 {
		t.Fatal(id)
	}
	for _, n := range []int32{5, 5, 90} {
		p.delete(t, 0)
		if e := p.delete(t, 0); e != api.ErrAbsent {
			t.Error(e)
		}
		p.check(t, vec(5))
		p.insert(t, v(0, n), 1)
		if e := p.insert(t, v(0, n), 1); e != api.ErrDup {
			t.Error(e)
		}
		p.check(t, vec(5))
	}
	if l := p.x.Image().Vp; !l[0].Gone || l[0].Vantage.Id != 0 || p.x.Len() != 7 {
		t.Error(l[0], p.x.Len())
	}
}

// Out of a leaf a thing is taken; the others stay as they stand, all ends stay, and so does a leaf that has none any more.
func TestP242DeleteOutOfALeaf(t *testing.T) {
	p := newPair(api.L1, 4)
	p.bulk(t, vs(0, 1, -2, 3, 4, -5, 6, 7), 0)
	want := p.x.Image().Vp
	checkVantage(t, want[0], v(0, 0), -1, 1, 2, 1, 3, 4, 7)
	was := p.meter.Calls()
	for _, id := range []uint64{2, 7, 4, 1, 3, 5, 6} {
		for _, other := range []uint64{id + 10, math.MaxUint64} {
			if e := p.delete(t, other, 1); e != api.ErrAbsent {
				t.Error(e)
			}
		}
		p.delete(t, id, 1)
		for i := range want {
			want[i].Bucket = slices.DeleteFunc(want[i].Bucket, func(x api.Item) bool { return x.Id == id })
		}
		if got := p.x.Image(); !sameImage(got, api.Image{Vp: want}) {
			t.Fatalf("without %d: %v, want %v", id, got.Vp, want)
		}
		if e := p.delete(t, id, 1); e != api.ErrAbsent {
			t.Error(e)
		}
	}
	if p.meter.Calls() != was || p.x.Gone() != 0 || p.x.Len() != 1 || p.x.Depth() != 2 {
		t.Error(p.meter.Calls()-was, p.x.Gone(), p.x.Len(), p.x.Depth())
	}
	p.check(t, vec(3))
	p.insert(t, v(3, 9))
	p.check(t, vec(3))
}

// A root that is a leaf stays when its last thing goes, and is no reason to build anything then.
func TestP242DeleteOfTheLastOne(t *testing.T) {
	p := newPair(api.L1, 2)
	p.insert(t, v(7, 1))
	p.delete(t, 7)
	p.check(t, vec(1))
	if l := p.x.Image().Vp; len(l) != 1 || l[0].Parent != -1 || p.x.Depth() != 1 || p.x.Len() != 0 {
		t.Error(l, p.x.Depth(), p.x.Len())
	}
	// Each of these comes as by Insert, as there is a node: a third one is what makes a vantage of the second one.
	p.bulk(t, vs(4, 5, 6, 7), 1)
	p.check(t, vec(1))
	checkVantage(t, p.x.Image().Vp[0], v(1, 5), -1, 1, 2, 1, 1, 1, 2)
	// Of a vantage without any other thing nothing is left: no node, either.
	for _, id := range []uint64{0, 2, 3, 1} {
		p.delete(t, id)
		p.check(t, vec(1))
	}
	if l := p.x.Image().Vp; len(l) != 0 || p.x.Depth() != 0 || p.x.Gone() != 0 {
		t.Error(l, p.x.Depth(), p.x.Gone())
	}
	p.insert(t, v(3, 9))
	p.check(t, vec(1))
}

// Half of the vantages may be gone; of more, all is built of what is left, by rising Ids.
func TestP242DeleteOfMoreThanHalf(t *testing.T) {
	p := newPair(api.L1, 1)
	p.bulk(t, []api.Item{v(9, 5), v(4, 6), v(7, 0), v(2, 9), v(5, 3), v(8, 2), v(0, 7), v(1, 1)}, 0)
	var vantages []uint64
	for _, n := range p.x.Image().Vp {
		if !n.Leaf {
			vantages = append(vantages, n.Vantage.Id)
		}
	}
	if len(vantages) != 4 {
		t.Fatal(vantages)
	}
	want := p.x.Image()
	was := p.meter.Calls()
	for i, at := range []int{0, 2} {
		p.delete(t, vantages[at], 1)
		want.Vp[slices.IndexFunc(want.Vp, func(n api.Vp) bool { return !n.Leaf && n.Vantage.Id == vantages[at] })].Gone = true
		if got := p.x.Image(); !sameImage(got, want) || p.x.Gone() != i+1 {
			t.Fatal(got, p.x.Gone())
		}
	}
	if p.meter.Calls() != was {
		t.Error("what goes asks", p.meter.Calls()-was)
	}
	p.check(t, vec(5))
	p.delete(t, vantages[1], 3, 2, 0)
	p.check(t, vec(5))
	l := p.x.Image().Vp
	checkVantage(t, l[0], v(5, 3), -1, 1, 2, 1, 2, 4, 6)
	checkVantage(t, l[1], v(1, 1), 0, 3, 4, 1, 0, 1, 1)
	checkVantage(t, l[2], v(0, 7), 0, 5, 6, 1, 0, 2, 2)
	checkBucket(t, l[4], v(8, 2))
	checkBucket(t, l[6], v(2, 9))
	if p.x.Gone() != 0 || p.x.Len() != 5 || len(l) != 7 {
		t.Error(p.x.Gone(), p.x.Len(), l)
	}
}

// Of one to twelve things, in whatever order they go: never are more than half of the vantages gone, and half of them are at times.
func TestP242DeleteOfEach(t *testing.T) {
	halves := 0
	for n := 1; n <= 12; n++ {
		for first := range n {
			for _, stride := range []int{1, 5, 7, 11} {
				p := newPair(api.L1, 1+first%2)
				for i := range n {
					p.insert(t, v(uint64(i), int32(i*i%7)), first, i)
				}
				for i := range n {
					p.delete(t, uint64((first+stride*i)%n), i, 1)
					p.check(t)
					gone, all := p.m.vantages()
					if 2*gone > all {
						t.Fatal(gone, all)
					}
					if gone > 0 && 2*gone == all {
						halves++
					}
				}
			}
		}
	}
	if halves < 100 {
		t.Error(halves)
	}
}

// Without nodes the tree is built of all at once; else each comes as by Insert, in order.
func TestP242Bulk(t *testing.T) {
	l := []api.Item{v(5, 0), v(2, 3), v(9, 9), v(4, -3), v(1, 0), v(0, 9), v(3, 4), v(8, 1)}
	for _, most := range mosts() {
		for split := range len(l) + 1 {
			raw := []int{3, 5, 1}
			p := newPair(api.L1, most)
			p.bulk(t, l[:split], raw...)
			p.check(t, vec(1))
			one := loaded(t, p.meter, most, p.x.Image())
			p.bulk(t, l[split:], raw...)
			p.check(t, vec(1))
			if split == 0 {
				continue
			}
			d := draws.New(raw)
			for _, x := range l[split:] {
				checkErrno(t, "Insert", one.Insert(x, d), api.OK)
			}
			checkState(t, one, p.m)
		}
	}
}

// With a number that is there, or stands twice, nothing changes, and nothing is asked, or used.
func TestP242BulkOfOneThatIsThere(t *testing.T) {
	for _, ids := range [][]uint64{nil, {7}, {7, 9, 1}} {
		p := newPair(api.L1, 1)
		for _, id := range ids {
			p.insert(t, v(id, int32(id)), 1)
		}
		lists := [][]api.Item{{v(3, 30), v(4, 40), v(3, 50)}, {v(3, 30), v(3, 30)}}
		for _, id := range ids {
			lists = append(lists, []api.Item{v(id, 30)}, []api.Item{v(3, 30), v(id, 40), v(4, 50)}, []api.Item{v(3, 30), v(4, 40), v(id, 50)})
		}
		was := p.meter.Calls()
		for _, l := range lists {
			if e := p.bulk(t, l, 1); e != api.ErrDup {
				t.Error(e)
			}
			p.check(t)
		}
		if p.meter.Calls() != was {
			t.Error("it asks", p.meter.Calls()-was)
		}
	}
}

// What is gone isn't there for Bulk, either; of nothing, nothing comes.
func TestP242BulkOfWhatIsGone(t *testing.T) {
	p := newPair(api.L1, 1)
	for _, l := range [][]api.Item{nil, {}, vs(1, 2, 3, 4, 5, 6), nil} {
		p.bulk(t, l, 1)
		p.check(t)
	}
	p.delete(t, 1)
	if e := p.bulk(t, []api.Item{v(30, 1), v(1, 1)}, 1); e != api.OK || p.x.Gone() != 1 || p.x.Len() != 7 {
		t.Error(e, p.x.Gone(), p.x.Len())
	}
	p.check(t, vec(1))
}

// Nodes stand level by level, In ahead of Out, wherever they came from.
func TestP242Image(t *testing.T) {
	p := newPair(api.L1, 1)
	for i := range 60 {
		p.insert(t, v(uint64(i), int32(i*37%61)), i*i, 1, 2)
	}
	l := p.x.Image().Vp
	next := 1
	depths := []int{1}
	for at, n := range l {
		if at > 0 {
			depths = append(depths, depths[n.Parent]+1)
			if depths[at] < depths[at-1] {
				t.Fatalf("%d stands behind one that is deeper", at)
			}
		}
		if n.Leaf {
			continue
		}
		if n.In != next || n.Out != next+1 || l[n.In].Parent != at || l[n.Out].Parent != at {
			t.Fatalf("%d has the kids %d and %d, the next ones are at %d", at, n.In, n.Out, next)
		}
		next += 2
	}
	if next != len(l) || p.x.Depth() != depths[len(l)-1] {
		t.Error(next, len(l), p.x.Depth())
	}
	if x := p.x.Image(); x.Root != 0 || len(x.Bk) > 0 || len(x.Mn) > 0 || len(x.Pivots) > 0 || len(x.Rows) > 0 {
		t.Error(x)
	}
	p.check(t, vec(30))
}

// How many nodes stand one below the other, on the longest way, whatever is gone.
func TestP242Depth(t *testing.T) {
	p := newPair(api.L1, 1)
	for i, c := range []struct {
		n    int32
		want int
	}{
		{0, 1}, {5, 2}, {9, 3}, {0, 3}, {0, 3}, {-9, 4}, {5, 4},
	} {
		p.insert(t, v(uint64(i), c.n))
		p.check(t)
		if p.x.Depth() != c.want {
			t.Fatalf("behind %d: Depth %d, want %d of %v", i, p.x.Depth(), c.want, p.x.Image().Vp)
		}
	}
	p.delete(t, 0)
	p.delete(t, 6)
	if p.x.Depth() != 4 || p.x.Gone() != 1 {
		t.Error(p.x.Depth(), p.x.Gone())
	}
}

// deed is something that is done to a tree, and to a model.
type deed func(t *testing.T, p *pair)

func inserts(id uint64, n int32) deed {
	return func(t *testing.T, p *pair) { p.insert(t, v(id, n), int(n), 1) }
}

func deletes(id uint64) deed {
	return func(t *testing.T, p *pair) { p.delete(t, id, int(id), 2) }
}

func bulks(l ...api.Item) deed {
	return func(t *testing.T, p *pair) { p.bulk(t, l, 1, 0) }
}

// All short rows of deeds.
func TestP242AllShort(t *testing.T) {
	deeds := []deed{
		inserts(1, 0), inserts(2, 0), inserts(1, 5), inserts(3, 7), deletes(1), deletes(2), deletes(3),
		bulks(v(1, 5), v(2, 7)), bulks(v(4, 0), v(2, 9), v(3, 9)), bulks(),
	}
	row := [5]int{}
	for row[4] < len(deeds) {
		p := newPair(api.L1, 1)
		for _, i := range row {
			deeds[i](t, p)
		}
		p.check(t)
		all := p.m.all(vec(6))
		checkHits(t, "Near", 9, p.x.Near(vec(6), 9), all)
		checkHits(t, "Range", 4, p.x.Range(vec(6), 4), within(all, 4))
		for i := range row {
			row[i]++
			if row[i] < len(deeds) || i == 4 {
				break
			}
			row[i] = 0
		}
	}
}

// Where nothing is gone, to tell all of them asks for each one just once; so does what tells none of those that are all as far.
func TestP243EachJustOnce(t *testing.T) {
	for _, most := range mosts() {
		for n := range 40 {
			meter := metric.New(api.L1)
			x := New(meter, most)
			for i := range n {
				x.Insert(v(uint64(i), int32(i*i%23)), draws.New([]int{i}))
			}
			was := meter.Calls()
			for i, ask := range []func() int{
				func() int { return len(x.Range(vec(9), math.MaxInt)) },
				func() int { return len(x.Near(vec(9), math.MaxInt)) },
				func() int { return len(front.Take(x.Walk(vec(9)), math.MaxInt)) },
			} {
				if told := ask(); told != n || meter.Calls() != was+n {
					t.Errorf("question %d of %d: %d are told, asked %d times", i, n, told, meter.Calls()-was)
				}
				was = meter.Calls()
			}
		}
	}
}

// Vantages that are gone are asked for once, too, and none of them is told; what is below them is.
func TestP243OfWhatIsGone(t *testing.T) {
	for _, kind := range metrics() {
		next := drawer(uint64(kind))
		p := newPair(kind, 1)
		var l []api.Item
		for i := range 30 {
			l = append(l, api.Item{Id: uint64(i), Obj: thing(kind, next)})
		}
		p.bulk(t, l, 1, 5, 2)
		vantages := p.x.Image().Vp
		for _, n := range vantages {
			if _, all := p.m.vantages(); !n.Leaf && 2*p.m.gone()+2 <= all {
				p.delete(t, n.Vantage.Id)
				p.check(t, thing(kind, next), n.Vantage.Obj)
			}
		}
		if p.x.Gone() < 5 {
			t.Error(p.x.Gone())
		}
	}
}

// What the triangle tells to be too far isn't asked for.
func TestP243WhatIsTooFarIsLeftOut(t *testing.T) {
	const n = 1000
	meter := metric.New(api.L1)
	x := New(meter, 4)
	var l []api.Item
	for i := range n {
		l = append(l, v(uint64(i), int32(i)))
	}
	x.Bulk(l, draws.New([]int{5, 77, 3}))
	for q := range int32(n) {
		want := []api.Hit{{Id: uint64(q)}}
		was := meter.Calls()
		checkHits(t, "Range", 0, x.Range(vec(q), 0), want)
		checkHits(t, "Near", 1, x.Near(vec(q), 1), want)
		checkHits(t, "Walk", 1, front.Take(x.Walk(vec(q)), 1), want)
		if asked := meter.Calls() - was; asked > n/10 {
			t.Fatalf("three questions for %d ask %d times", q, asked)
		}
	}
}

// Two walks, and other questions, don't disturb each other.
func TestP243WalksBesideEachOther(t *testing.T) {
	p := newPair(api.Lev, 2)
	next := drawer(7)
	for i := range 60 {
		p.insert(t, api.Item{Id: uint64(i), Obj: thing(api.Lev, next)}, i)
	}
	first, second := p.x.Walk(str("ab")), p.x.Walk(str("bbbb"))
	for i := range 60 {
		if h, ok := first.Next(); h != p.m.all(str("ab"))[i] || !ok {
			t.Fatal(i, h, ok)
		}
		if h, ok := second.Next(); h != p.m.all(str("bbbb"))[i] || !ok {
			t.Fatal(i, h, ok)
		}
		p.x.Near(str("a"), i)
		p.x.Range(str("b"), i%4)
	}
	p.check(t, str("ab"))
}

func TestP245OfNil(t *testing.T) {
	var x *Tree
	d := draws.New([]int{1})
	for range 2 {
		checkErrno(t, "Insert", x.Insert(v(1, 1), d), api.ErrNil)
		checkErrno(t, "Delete", x.Delete(1, d), api.ErrNil)
		checkErrno(t, "Bulk", x.Bulk(vs(1, 2), d), api.ErrNil)
		checkErrno(t, "Bulk of one Id twice", x.Bulk([]api.Item{v(1, 1), v(1, 2)}, d), api.ErrNil)
		checkErrno(t, "Bulk of nothing", x.Bulk(nil, nil), api.ErrNil)
		checkState(t, x, newModel(api.L1, 1))
		for _, n := range []int{math.MinInt, -1, 0, 1, math.MaxInt} {
			checkHits(t, "Range", n, x.Range(vec(3), n), nil)
			checkHits(t, "Near", n, x.Near(vec(3), n), nil)
		}
		walk := x.Walk(vec(3))
		if h, ok := walk.Next(); h != (api.Hit{}) || ok || walk.Low() != api.MaxDist || walk.Opened() != 0 {
			t.Error(h, ok, walk.Low(), walk.Opened())
		}
	}
	if d.Used() != 0 {
		t.Error(d.Used())
	}
}

// step does one thing of those that may be done to both.
func step(t *testing.T, p *pair, next func(below int) int) {
	t.Helper()
	id := func() uint64 { return uint64(next(30)) * 0x0842108421084210 }
	item := func() api.Item { return api.Item{Id: id(), Obj: thing(p.m.kind, next)} }
	raw := []int{next(100), next(100) - 50, next(7)}[:next(4)]
	switch next(8) {
	case 0, 1, 2:
		p.insert(t, item(), raw...)
	case 3, 4, 5:
		p.delete(t, id(), raw...)
	case 6:
		// What goes is more often than not a vantage.
		l := p.x.Image().Vp
		if len(l) > 0 {
			p.delete(t, l[next(len(l))].Vantage.Id, raw...)
		}
	default:
		var l []api.Item
		for range next(6) {
			l = append(l, item())
		}
		p.bulk(t, l, raw...)
	}
}

// Whatever is done, it answers as a scan does; and so does what is loaded of its image, which goes on in its place.
func TestP246Mixed(t *testing.T) {
	for _, kind := range metrics() {
		for seed := range uint64(30) {
			next := drawer(seed*77 + uint64(kind))
			p := newPair(kind, int(seed%5))
			for range 80 {
				step(t, p, next)
				p.check(t, thing(kind, next))
				if next(10) == 0 {
					p.reload(t)
				}
			}
		}
	}
}

// Both of two trees, of which one is loaded, go on alike, and neither disturbs the other one.
func TestP246LoadedGoesOnAlike(t *testing.T) {
	for _, kind := range metrics() {
		next := drawer(uint64(kind))
		p := newPair(kind, 2)
		for range 20 {
			step(t, p, next)
		}
		o := &pair{p.meter, loaded(t, p.meter, 2, p.x.Image()), p.m.clone()}
		other := drawer(99)
		for range 40 {
			step(t, p, next)
			step(t, o, other)
			q := thing(kind, next)
			p.check(t, q)
			o.check(t, q)
		}
	}
}

// The greatest things, which are as far apart as right ones may be.
func TestP246TheGreatestThings(t *testing.T) {
	least := vec(slices.Repeat([]int32{math.MinInt32}, api.MaxSize)...)
	greatest := vec(slices.Repeat([]int32{math.MaxInt32}, api.MaxSize)...)
	middle := vec(make([]int32, api.MaxSize)...)
	long := func(s string) api.Object { return str(strings.Repeat(s, 400)) }
	for _, c := range []struct {
		kind   int
		things []api.Object
	}{
		{api.L1, []api.Object{least, middle, greatest, middle}},
		{api.Ham, []api.Object{long("ab"), long("ba"), long("aa"), long("ab")}},
		{api.Lev, []api.Object{long("ab"), long("ba"), long("aa"), str("")}},
	} {
		p := newPair(c.kind, 1)
		for i, y := range c.things {
			p.insert(t, api.Item{Id: uint64(9 - i), Obj: y}, i)
		}
		p.check(t)
		for _, q := range c.things {
			all := p.m.all(q)
			checkHits(t, "Walk", 9, front.Take(p.x.Walk(q), 9), all)
			for _, h := range all {
				checkHits(t, "Range", h.Dist, p.x.Range(q, h.Dist), within(all, h.Dist))
				checkHits(t, "Range", h.Dist-1, p.x.Range(q, h.Dist-1), within(all, h.Dist-1))
			}
		}
		p.reload(t)
		p.check(t)
	}
}

// As many things as an index may have.
func TestP246OfMany(t *testing.T) {
	const n = api.MaxObjects
	l := make([]api.Item, n)
	for i := range l {
		l[i] = v(uint64(n-i), int32(i*77%n))
	}
	meter := metric.New(api.L1)
	x := New(meter, 64)
	d := draws.New([]int{n / 2, 3, 999, 77777})
	checkErrno(t, "Bulk", x.Bulk(l[:n-1], d), api.OK)
	checkErrno(t, "Insert", x.Insert(l[n-1], d), api.OK)
	id := func(number int) uint64 {
		return uint64(n - slices.IndexFunc(l, func(x api.Item) bool { return int(x.Obj.Vec[0]) == number }))
	}
	middle, below, above := id(5000), id(4999), id(5001)
	want := []api.Hit{{Id: middle}, {Id: min(below, above), Dist: 1}, {Id: max(below, above), Dist: 1}}
	checkHits(t, "Range", 1, x.Range(vec(5000), 1), want)
	checkHits(t, "Near", 3, x.Near(vec(5000), 3), want)
	checkHits(t, "Walk", 3, front.Take(x.Walk(vec(5000)), 3), want)
	if x.Len() != n || len(x.Items()) != n || x.Depth() > 20 {
		t.Error(x.Len(), len(x.Items()), x.Depth())
	}
	for _, id := range []uint64{below, above} {
		checkErrno(t, "Delete", x.Delete(id, d), api.OK)
	}
	y := loaded(t, meter, 64, x.Image())
	checkHits(t, "Range", 1, y.Range(vec(5000), 1), want[:1])
	if y.Len() != n-2 || y.Depth() != x.Depth() {
		t.Error(y.Len(), y.Depth())
	}
}

// Nodes of which nearly each one stands below the one ahead of it.
func TestP246OfADeepTree(t *testing.T) {
	const n = 3000
	meter := metric.New(api.Ham)
	x := New(meter, 1)
	for i := range n {
		checkErrno(t, "Insert", x.Insert(api.Item{Id: uint64(n - i), Obj: str("same")}, nil), api.OK)
	}
	y := loaded(t, meter, 1, x.Image())
	for _, tree := range []*Tree{x, y} {
		if l := tree.Range(str("same"), 0); tree.Depth() != n/2+1 || len(l) != n || l[0].Id != 1 || l[n-1].Id != n {
			t.Error(tree.Depth(), len(l))
		}
		checkHits(t, "Near", 2, tree.Near(str("some"), 2), []api.Hit{{Id: 1, Dist: 1}, {Id: 2, Dist: 1}})
	}
	for i := range n {
		checkErrno(t, "Delete", x.Delete(uint64(i+1), nil), api.OK)
	}
	if x.Len() != 0 || y.Depth() != n/2+1 {
		t.Error(x.Len(), y.Depth())
	}
}

// What isn't right, and a meter that is nil, or of no metric: each call ends, and none panics.
func TestR1WhatIsNoThing(t *testing.T) {
	wrong := []api.Object{
		{}, {Tag: 3, Vec: []int32{1}, Str: "a"}, {Tag: math.MinInt}, vec(), str(""), vec(math.MinInt32, math.MaxInt32), str("\xff\x00"),
		vec(slices.Repeat([]int32{math.MinInt32}, 5*api.MaxSize)...),
	}
	meters := []*metric.Meter{nil, metric.New(0), metric.New(math.MaxInt), metric.New(api.L1), metric.New(api.Ham), metric.New(api.Lev)}
	for i, meter := range meters {
		x := New(meter, i)
		for i, y := range wrong {
			checkErrno(t, "Insert", x.Insert(api.Item{Id: uint64(len(wrong) - i), Obj: y}, nil), api.OK)
		}
		for _, q := range wrong {
			if n := len(x.Items()); n != len(wrong) {
				t.Fatal(n)
			}
			for k := range len(wrong) + 2 {
				x.Near(q, k)
				x.Range(q, k)
				front.Take(x.Walk(q), k)
			}
		}
		checkErrno(t, "Bulk", x.Bulk([]api.Item{{Id: 100, Obj: wrong[2]}, {Id: 101}}, draws.New([]int{math.MinInt})), api.OK)
		for _, item := range x.Items() {
			checkErrno(t, "Delete", x.Delete(item.Id, draws.New(nil)), api.OK)
		}
		if x.Len() != 0 || x.Gone() != 0 {
			t.Error(x.Len(), x.Gone())
		}
	}
}

// A walk behind a change ends, too, whatever was put in or taken out.
func TestR1WalkBehindAChange(t *testing.T) {
	for told := range 6 {
		for gone := range 21 {
			x := New(metric.New(api.L1), 2)
			for i := range 20 {
				x.Insert(v(uint64(i), int32(i*i%23)), draws.New([]int{i}))
			}
			walk := x.Walk(vec(3))
			front.Take(walk, told)
			for i := range 30 {
				x.Insert(v(uint64(50+i), int32(i)), nil)
			}
			for i := range gone {
				x.Delete(uint64(i), nil)
				x.Delete(uint64(50+i), nil)
			}
			x.Insert(v(90, 5), nil)
			if l := front.Take(walk, 1000); len(l) > 100 {
				t.Error(len(l))
			}
		}
	}
}

// What is handed in isn't changed, and is changed later without anything of the tree changing.
func TestR3HandedIn(t *testing.T) {
	spoil := func(l []api.Item) {
		for i := range l {
			for k := range l[i].Obj.Vec {
				l[i].Obj.Vec[k] += 1000
			}
			l[i] = api.Item{}
		}
	}
	for _, most := range []int{1, 3, 9} {
		p := newPair(api.L1, most)
		l := vs(5, 0, 2, 3, 9, 9)
		p.bulk(t, l, 2)
		if !sameItems(l, vs(5, 0, 2, 3, 9, 9)) {
			t.Error(l)
		}
		spoil(l)
		p.check(t, vec(8))

		l = []api.Item{v(17, 20), v(18, 5)}
		p.insert(t, l[0], 1)
		p.bulk(t, l[1:], 1)
		spoil(l)
		p.check(t, vec(8))

		q := vec(8)
		all := p.m.all(q)
		walk := p.x.Walk(q)
		walk.Next()
		q.Vec[0] = 1000
		checkHits(t, "Walk", 9, front.Take(walk, 9), all[1:])

		image := p.x.Image()
		y := loaded(t, p.meter, most, image)
		for i := range image.Vp {
			spoil([]api.Item{image.Vp[i].Vantage})
			spoil(image.Vp[i].Bucket)
		}
		clear(image.Vp)
		checkState(t, y, p.m)
		checkAnswers(t, y, p.meter, p.m, vec(8))
	}
}

// What callers write into an answer, or behind it, changes nothing of the tree, and of no other answer.
func TestR3Answered(t *testing.T) {
	for _, most := range []int{1, 2, 9} {
		p := newPair(api.L1, most)
		p.bulk(t, vs(0, 3, 9, 9, 20, 4, 5, 7), 2)
		p.delete(t, 2)
		items, image, again := p.x.Items(), p.x.Image(), p.x.Image()
		for i := range items {
			items[i].Obj.Vec[0] += 100
			_ = append(items[i].Obj.Vec, 1)
		}
		p.check(t, vec(3))
		for i := range image.Vp {
			n := &image.Vp[i]
			for k := range n.Vantage.Obj.Vec {
				n.Vantage.Obj.Vec[k] += 300
			}
			for k := range n.Bucket {
				n.Bucket[k].Obj.Vec[0] += 300
				n.Bucket[k].Id += 300
			}
			_ = append(n.Bucket, v(1, 1))
		}
		clear(image.Vp)
		p.check(t, vec(3))
		if !sameImage(again, p.m.image()) {
			t.Error(again)
		}
		near, some := p.x.Near(vec(0), 3), p.x.Range(vec(0), 9)
		clear(near)
		clear(some)
		p.check(t, vec(0))
	}
}

// Questions change nothing that is asked later.
func TestR4AnswersAreTheSameAgain(t *testing.T) {
	p := newPair(api.Lev, 3)
	next := drawer(3)
	for i := range 200 {
		p.insert(t, api.Item{Id: uint64(i), Obj: thing(api.Lev, next)}, i, 4)
	}
	for range 5 {
		was := p.meter.Calls()
		p.x.Near(str("ab"), 4)
		once := p.meter.Calls() - was
		p.x.Near(str("ab"), 4)
		if twice := p.meter.Calls() - was; twice != 2*once {
			t.Error("Near asks", once, "and", twice-once, "times")
		}
		p.check(t, str("abba"))
	}
}
