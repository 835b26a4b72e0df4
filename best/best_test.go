package best

import (
	"math"
	"slices"
	"testing"

	"waywiser/api"
)

// of are hits by their numbers: Dist, Id, Dist, Id ..
func of(l ...int) []api.Hit {
	var all []api.Hit
	for i := 0; i+1 < len(l); i += 2 {
		all = append(all, api.Hit{Dist: l[i], Id: uint64(l[i+1])})
	}
	return all
}

// few are hits of which each one is as far as others, or has the Id of others, or both.
func few() []api.Hit {
	return of(0, 0, 0, 1, 1, 0, 1, 1)
}

// ends are hits whose numbers are at the ends of all there are, rising.
func ends() []api.Hit {
	var l []api.Hit
	for _, dist := range []int{math.MinInt, -1, 0, 1, api.MaxDist, api.MaxDist + 1, math.MaxInt} {
		for _, id := range []uint64{0, 1, 1<<63 - 1, 1 << 63, math.MaxUint64} {
			l = append(l, api.Hit{Dist: dist, Id: id})
		}
	}
	return l
}

// lists are all lists of n of the few.
func lists(n int) [][]api.Hit {
	all := [][]api.Hit{nil}
	for range n {
		var longer [][]api.Hit
		for _, ahead := range all {
			for _, h := range few() {
				longer = append(longer, append(slices.Clone(ahead), h))
			}
		}
		all = longer
	}
	return all
}

// mixed are n hits in no order, some of them the same ones, alike for each seed.
func mixed(seed uint64, n int) []api.Hit {
	var l []api.Hit
	for range n {
		seed = seed*6364136223846793005 + 1442695040888963407
		l = append(l, api.Hit{Dist: int(seed>>33) % 20, Id: seed >> 20 % 10})
	}
	return l
}

// orders are all orders in which the hits may come.
func orders(l []api.Hit) [][]api.Hit {
	if len(l) == 0 {
		return [][]api.Hit{nil}
	}
	var all [][]api.Hit
	for i, h := range l {
		for _, behind := range orders(slices.Delete(slices.Clone(l), i, i+1)) {
			all = append(all, append([]api.Hit{h}, behind...))
		}
	}
	return all
}

// put puts a hit into a rising row, behind all that it isn't ahead of.
func put(row []api.Hit, h api.Hit) []api.Hit {
	at := len(row)
	for at > 0 && (h.Dist < row[at-1].Dist || h.Dist == row[at-1].Dist && h.Id < row[at-1].Id) {
		at--
	}
	return slices.Insert(slices.Clone(row), at, h)
}

// model is the promise in its own words: a rising row, of which what is too much goes.
type model struct {
	k    int
	kept []api.Hit
}

func (m *model) add(h api.Hit) bool {
	m.kept = put(m.kept, h)
	if len(m.kept) <= max(m.k, 0) {
		return true
	}
	last := len(m.kept) - 1
	goes := m.kept[last]
	m.kept = m.kept[:last]
	return goes != h
}

func (m *model) bound() int {
	switch {
	case m.k < 1:
		return -1
	case len(m.kept) < m.k:
		return api.MaxDist
	}
	far := math.MinInt
	for _, h := range m.kept {
		far = max(far, h.Dist)
	}
	return far
}

// checkKeeps asks for all that is told of what is kept.
func checkKeeps(t *testing.T, b *Best, m *model) {
	t.Helper()
	if l := b.List(); !slices.Equal(l, m.kept) {
		t.Fatalf("the first %d are %v, want %v", m.k, l, m.kept)
	}
	if b.Len() != len(m.kept) {
		t.Fatalf("the first %d are %d, want %d", m.k, b.Len(), len(m.kept))
	}
	if full := m.k < 1 || len(m.kept) == m.k; b.Full() != full {
		t.Fatalf("full with %d of %d: %t", len(m.kept), m.k, b.Full())
	}
	if b.Bound() != m.bound() {
		t.Fatalf("the bound of %v of %d is %d, want %d", m.kept, m.k, b.Bound(), m.bound())
	}
}

// checkCallByCall adds hits one by one, and asks for all behind each.
func checkCallByCall(t *testing.T, k int, l []api.Hit) {
	t.Helper()
	b, m := New(k), &model{k: k}
	checkKeeps(t, b, m)
	for i, h := range l {
		got, want := b.Add(h), m.add(h)
		if got != want {
			t.Fatalf("Add of %v, behind %v, of which %d are kept: %t", h, l[:i], k, got)
		}
		checkKeeps(t, b, m)
	}
}

// filled has hits added, one behind the other.
func filled(k int, l []api.Hit) *Best {
	b := New(k)
	for _, h := range l {
		b.Add(h)
	}
	return b
}

func TestP121Example(t *testing.T) {
	b := New(2)
	for i, want := range []bool{true, true, true} {
		if got := b.Add(of(5, 1, 3, 2, 4, 3)[i]); got != want {
			t.Errorf("the hit at %d: %t", i, got)
		}
	}
	if l := b.List(); !slices.Equal(l, of(3, 2, 4, 3)) || b.Bound() != 4 || b.Len() != 2 || !b.Full() {
		t.Error(l, b.Bound(), b.Len(), b.Full())
	}
}

// All short lists, with the same ones among them, and each k that is below, at and above how many come.
func TestP121CallByCall(t *testing.T) {
	for n := range 6 {
		for _, l := range lists(n) {
			for k := -1; k <= n+1; k++ {
				checkCallByCall(t, k, l)
			}
		}
	}
}

func TestP121OfManyThatShare(t *testing.T) {
	for seed := range uint64(20) {
		for _, k := range []int{0, 1, 2, 3, 7, 8, 50, 119, 120, 121, 1000} {
			checkCallByCall(t, k, mixed(seed, 120))
		}
	}
}

func TestP121OfTheEndsOfAllNumbers(t *testing.T) {
	rising := ends()
	falling := slices.Clone(rising)
	slices.Reverse(falling)
	for k := -1; k <= len(rising)+1; k++ {
		checkCallByCall(t, k, rising)
		checkCallByCall(t, k, falling)
	}
}

// Of one Dist the one with the lesser Id is ahead, of one Id the one with the lesser Dist.
func TestP121TheOrder(t *testing.T) {
	b := filled(2, of(3, 7, 3, 2))
	if !b.Add(api.Hit{Dist: 3, Id: 5}) || !slices.Equal(b.List(), of(3, 2, 3, 5)) {
		t.Error(b.List())
	}
	if b.Add(api.Hit{Dist: 3, Id: 6}) || b.Add(api.Hit{Dist: 4, Id: 0}) || !slices.Equal(b.List(), of(3, 2, 3, 5)) {
		t.Error(b.List())
	}
	if !b.Add(api.Hit{Dist: 2, Id: math.MaxUint64}) || b.List()[0].Id != math.MaxUint64 || b.List()[1].Id != 2 {
		t.Error(b.List())
	}
}

// Several that are the same each count; of what is the same as one that goes Add tells false.
func TestP121TheSameOnes(t *testing.T) {
	h := api.Hit{Dist: 2, Id: 5}
	b := New(3)
	for i, want := range []bool{true, true, true, false, false} {
		if got := b.Add(h); got != want || b.Len() != min(i+1, 3) {
			t.Errorf("for the %d. time: %t, %d are kept", i+1, got, b.Len())
		}
	}
	if !slices.Equal(b.List(), []api.Hit{h, h, h}) {
		t.Error(b.List())
	}
	// The same as one that stays, while another one goes.
	b = filled(3, of(1, 1, 2, 2, 3, 3))
	if !b.Add(api.Hit{Dist: 1, Id: 1}) || !slices.Equal(b.List(), of(1, 1, 1, 1, 2, 2)) {
		t.Error(b.List())
	}
	if b.Add(api.Hit{Dist: 2, Id: 2}) || !slices.Equal(b.List(), of(1, 1, 1, 1, 2, 2)) {
		t.Error(b.List())
	}
	if !b.Add(api.Hit{Dist: 1, Id: 1}) || b.Add(api.Hit{Dist: 1, Id: 1}) || !slices.Equal(b.List(), of(1, 1, 1, 1, 1, 1)) {
		t.Error(b.List())
	}
}

// Also the zero hit is a hit.
func TestP121TheZeroHit(t *testing.T) {
	b := New(2)
	if !b.Add(api.Hit{}) || b.Len() != 1 || b.Full() || !b.Add(api.Hit{}) || b.Len() != 2 || b.Bound() != 0 || b.Add(api.Hit{}) {
		t.Error(b.List(), b.Full(), b.Bound())
	}
}

func TestP121NoneBelowOne(t *testing.T) {
	for _, k := range []int{0, -1, -2, math.MinInt} {
		checkCallByCall(t, k, ends())
	}
}

// So many that not all can come: each one is kept.
func TestP121TheGreatestK(t *testing.T) {
	for _, k := range []int{api.MaxObjects, math.MaxInt32, math.MaxInt} {
		checkCallByCall(t, k, mixed(uint64(k), 100))
		checkCallByCall(t, k, ends())
	}
}

// Len, Full, Bound and List change nothing, however often they are asked.
func TestP121AskingChangesNothing(t *testing.T) {
	l := mixed(4, 60)
	b, m := filled(7, l), &model{k: 7}
	for _, h := range l {
		m.add(h)
	}
	for range 5 {
		checkKeeps(t, b, m)
	}
	if b.Add(api.Hit{Dist: -1, Id: 3}) != m.add(api.Hit{Dist: -1, Id: 3}) {
		t.Error("Add tells otherwise")
	}
	checkKeeps(t, b, m)
}

func TestP121EachKeepsItsOwn(t *testing.T) {
	one, two, none := New(1), New(2), New(0)
	for _, h := range of(3, 3, 2, 2, 1, 1) {
		one.Add(h)
		two.Add(h)
		none.Add(h)
	}
	if !slices.Equal(one.List(), of(1, 1)) || !slices.Equal(two.List(), of(1, 1, 2, 2)) || none.Len() != 0 || New(2).Len() != 0 {
		t.Error(one.List(), two.List(), none.List())
	}
}

// As many as an index may have things; each one that comes is ahead of all, so each one is kept, and one goes.
func TestP121OfMany(t *testing.T) {
	const k = api.MaxObjects / 2
	b := New(k)
	for i := range api.MaxObjects {
		if !b.Add(api.Hit{Dist: api.MaxObjects - i, Id: uint64(i)}) {
			t.Fatalf("the hit at %d isn't kept", i)
		}
	}
	l := b.List()
	if len(l) != k || b.Len() != k || !b.Full() || b.Bound() != k {
		t.Fatal(len(l), b.Len(), b.Full(), b.Bound())
	}
	for i, h := range l {
		if h.Dist != i+1 || h.Id != uint64(api.MaxObjects-i-1) {
			t.Fatalf("at %d: %v", i, h)
		}
	}
}

func TestP122Bound(t *testing.T) {
	b := New(2)
	for i, want := range []int{api.MaxDist, api.MaxDist, 9, 9, 7, 7, 5, 0} {
		if b.Bound() != want || b.Full() != (i > 1) {
			t.Errorf("behind %d hits: %d, %t, want %d", i, b.Bound(), b.Full(), want)
		}
		b.Add(of(9, 1, 7, 2, 9, 1, 5, 9, 7, 3, 0, 0, 0, 0, 0, 0)[i])
	}
}

// The greatest Dist of all, not of the one that came last, nor of the one with the greatest Id.
func TestP122BoundIsTheGreatestDist(t *testing.T) {
	for _, l := range orders(of(1, 9, 8, 0, 3, 4)) {
		if b := filled(3, l); b.Bound() != 8 {
			t.Errorf("of %v: %d", l, b.Bound())
		}
	}
}

// A hit may be farther than MaxDist, or nearer than 0: full is full.
func TestP122BoundOfTheEnds(t *testing.T) {
	for _, h := range ends() {
		for k := 1; k < 4; k++ {
			b := New(k)
			for range k {
				if b.Bound() != api.MaxDist || b.Full() {
					t.Errorf("with %d of %d: %d, %t", b.Len(), k, b.Bound(), b.Full())
				}
				b.Add(h)
			}
			if b.Bound() != h.Dist || !b.Full() {
				t.Errorf("of %v: %d, %t", h, b.Bound(), b.Full())
			}
		}
	}
}

func TestP122BoundBelowOne(t *testing.T) {
	for _, k := range []int{0, -1, math.MinInt} {
		b := New(k)
		for range 2 {
			if b.Bound() != -1 || !b.Full() {
				t.Errorf("of New of %d: %d, %t", k, b.Bound(), b.Full())
			}
			b.Add(api.Hit{})
		}
	}
}

// What is farther than the bound isn't kept; what is nearer is.
func TestP122BoundTellsWhatMayBeKept(t *testing.T) {
	for seed := range uint64(20) {
		for k := 1; k < 20; k++ {
			l := mixed(seed, 40)
			bound := filled(k, l).Bound()
			if filled(k, l).Add(api.Hit{Dist: bound + 1}) {
				t.Fatalf("of %v, %d kept: farther than %d", l, k, bound)
			}
			if !filled(k, l).Add(api.Hit{Dist: bound - 1, Id: math.MaxUint64}) {
				t.Fatalf("of %v, %d kept: nearer than %d", l, k, bound)
			}
		}
	}
}

func TestP123Nil(t *testing.T) {
	var b *Best
	m := &model{}
	for _, h := range ends() {
		checkKeeps(t, b, m)
		if b.Add(h) {
			t.Errorf("Add of %v: true", h)
		}
	}
	checkKeeps(t, b, m)
	if b.Len() != 0 || len(b.List()) != 0 || b.Bound() != -1 || !b.Full() {
		t.Error(b.Len(), b.List(), b.Bound(), b.Full())
	}
}

func TestP124TheOrderOfComingPlaysNoPart(t *testing.T) {
	for _, l := range [][]api.Hit{of(1, 1, 1, 2, 2, 1, 2, 2, 3, 0, 3, 9), of(1, 1, 1, 1, 1, 2, 2, 0, 2, 0, 2, 0), of(0, 5, 0, 4, 0, 3, 0, 2, 0, 1, 0, 0)} {
		var rising []api.Hit
		for _, h := range l {
			rising = put(rising, h)
		}
		for k := -1; k < 8; k++ {
			m := &model{k, rising[:min(max(k, 0), len(rising))]}
			for _, order := range orders(l) {
				checkKeeps(t, filled(k, order), m)
			}
		}
	}
}

func TestP124OfManyTurnedAbout(t *testing.T) {
	for seed := range uint64(10) {
		l := mixed(seed, 300)
		for _, k := range []int{1, 2, 64, 299, 300, 301} {
			want := filled(k, l)
			turned := slices.Clone(l)
			slices.Reverse(turned)
			for at := 0; at < len(l); at += 37 {
				for _, other := range [][]api.Hit{slices.Concat(l[at:], l[:at]), slices.Concat(turned[at:], turned[:at])} {
					if got := filled(k, other); !slices.Equal(got.List(), want.List()) || got.Bound() != want.Bound() {
						t.Fatalf("of %v: %v, want %v", other, got.List(), want.List())
					}
				}
			}
		}
	}
}

// What List answers is new memory: whoever changes it, or puts more behind it, changes nothing else.
func TestR3ListIsNewMemory(t *testing.T) {
	b := filled(3, of(4, 4, 2, 2, 3, 3, 1, 1))
	one, two := b.List(), b.List()
	for i := range one {
		one[i] = api.Hit{Dist: 77, Id: 77}
	}
	_ = append(one[:1], api.Hit{Dist: 78, Id: 78})
	if !slices.Equal(two, of(1, 1, 2, 2, 3, 3)) || !slices.Equal(b.List(), two) {
		t.Error(two, b.List())
	}
	b.Add(api.Hit{Dist: 0, Id: 0})
	b.Add(api.Hit{Dist: 0, Id: 1})
	if !slices.Equal(two, of(1, 1, 2, 2, 3, 3)) || !slices.Equal(b.List(), of(0, 0, 0, 1, 1, 1)) {
		t.Error(two, b.List())
	}
}
