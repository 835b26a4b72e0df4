package index

import (
	"math"
	"reflect"
	"slices"
	"testing"

	"waywiser/api"
	"waywiser/draws"
	"waywiser/front"
)

// told is the interface as the chapter has it.
type told interface {
	Insert(x api.Item, d *draws.Source) api.Errno
	Delete(id uint64, d *draws.Source) api.Errno
	Bulk(l []api.Item, d *draws.Source) api.Errno
	Range(q api.Object, r int) []api.Hit
	Near(q api.Object, k int) []api.Hit
	Walk(q api.Object) *front.Walk
	Len() int
	Items() []api.Item
	Image() api.Image
}

// Each is the other one: neither has a method that the other one hasn't.
var (
	_ Index = told(nil)
	_ told  = Index(nil)
)

// question tells of a number whether it is there.
type question = func(id uint64) bool

// item has a thing that tells at which place it stands.
func item(id uint64, at int) api.Item {
	return api.Item{Id: id, Obj: api.Object{Tag: api.TagVec, Vec: []int32{int32(at), -1}}}
}

// items are items of those numbers.
func items(ids ...uint64) []api.Item {
	var l []api.Item
	for at, id := range ids {
		l = append(l, item(id, at))
	}
	return l
}

// idsOf are the numbers of items, as they stand.
func idsOf(l []api.Item) []uint64 {
	var ids []uint64
	for _, x := range l {
		ids = append(ids, x.Id)
	}
	return ids
}

// only tells that those are there, and no others.
func only(ids ...uint64) question {
	return func(id uint64) bool { return slices.Contains(ids, id) }
}

func nothing(uint64) bool { return false }

func all(uint64) bool { return true }

// ends are numbers at the ends of all there are, and some that are one only for what is too narrow.
func ends() []uint64 {
	return []uint64{
		0, 1, 2, 255, 256, 1<<31 - 1, 1 << 31, 1<<32 - 1, 1 << 32, 1<<32 + 1, 1 << 53, 1<<53 + 1,
		1<<63 - 1, 1 << 63, 1<<63 + 1, math.MaxUint64 - 1, math.MaxUint64,
	}
}

// few are numbers of which short lists are made.
func few() []uint64 {
	return []uint64{0, 7, 1 << 63, math.MaxUint64}
}

// lists are all lists of up to n of the few.
func lists(n int) [][]api.Item {
	l := [][]uint64{nil}
	for i := 0; i < len(l) && len(l[i]) < n; i++ {
		for _, id := range few() {
			l = append(l, append(slices.Clone(l[i]), id))
		}
	}
	var short [][]api.Item
	for _, ids := range l {
		short = append(short, items(ids...))
	}
	return short
}

// sets are all sets of the few.
func sets() [][]uint64 {
	l := [][]uint64{nil}
	for _, id := range few() {
		for _, without := range l {
			l = append(l, append(slices.Clone(without), id))
		}
	}
	return l
}

// drawer hands out numbers below others, the same ones for each seed.
func drawer(seed uint64) func(below int) int {
	return func(below int) int {
		seed = seed*6364136223846793005 + 1442695040888963407
		return int(seed >> 33 % uint64(below))
	}
}

// mixed are n items in no order, of so many numbers, with objects of all kinds, the same ones for each seed.
func mixed(seed uint64, n, numbers int) []api.Item {
	next := drawer(seed)
	var l []api.Item
	for at := range n {
		x := item(uint64(next(numbers)), at)
		x.Obj.Tag = next(4)
		for range next(3) {
			x.Obj.Str += string("abc"[next(3)])
		}
		l = append(l, x)
	}
	return l
}

// fresh is the promise in its own words: each place is held against has, and against all earlier places.
func fresh(l []api.Item, has question) (int, api.Errno) {
	for at, x := range l {
		if has(x.Id) {
			return at, api.ErrDup
		}
		for _, ahead := range l[:at] {
			if ahead.Id == x.Id {
				return at, api.ErrDup
			}
		}
	}
	return len(l), api.OK
}

// byId is the promise in its own words: each item comes behind all that aren't above it.
func byId(l []api.Item) []api.Item {
	var rising []api.Item
	for _, x := range l {
		at := len(rising)
		for at > 0 && rising[at-1].Id > x.Id {
			at--
		}
		rising = slices.Insert(rising, at, x)
	}
	return rising
}

// missing is the promise in its own words.
func missing(l []api.Item, has question) []uint64 {
	return slices.DeleteFunc(idsOf(l), has)
}

// same tells whether two lists have the same items at the same places, by all fields.
func same(l, k []api.Item) bool {
	return slices.EqualFunc(l, k, func(x, y api.Item) bool {
		return x.Id == y.Id && x.Obj.Tag == y.Obj.Tag && slices.Equal(x.Obj.Vec, y.Obj.Vec) && x.Obj.Str == y.Obj.Str
	})
}

func checkFresh(t *testing.T, l []api.Item, has question, want int, wantErr api.Errno) {
	t.Helper()
	if at, e := Fresh(l, has); at != want || e != wantErr {
		t.Fatalf("Fresh of %v: %d, %d, want %d, %d", idsOf(l), at, e, want, wantErr)
	}
}

func checkById(t *testing.T, l, want []api.Item) {
	t.Helper()
	if got := ById(l); !same(got, want) {
		t.Fatalf("ById of %v: %v, want %v", l, got, want)
	}
}

func checkMissing(t *testing.T, l []api.Item, has question, want ...uint64) {
	t.Helper()
	if got := Missing(l, has); !slices.Equal(got, want) {
		t.Fatalf("Missing of %v: %v, want %v", idsOf(l), got, want)
	}
}

// checkAll asks all three, each against the words of the promise.
func checkAll(t *testing.T, l []api.Item, has question) {
	t.Helper()
	at, e := fresh(l, has)
	checkFresh(t, l, has, at, e)
	checkById(t, l, byId(l))
	checkMissing(t, l, has, missing(l, has)...)
}

// The example of the chapter, and what stands around it.
func TestP211Fresh(t *testing.T) {
	l := items(3, 5, 3)
	checkFresh(t, l, nothing, 2, api.ErrDup)
	checkFresh(t, l[:2], nothing, 2, api.OK)
	checkFresh(t, l[:1], nothing, 1, api.OK)
	checkFresh(t, l[:0], nothing, 0, api.OK)
	checkFresh(t, l, only(5), 1, api.ErrDup)
	checkFresh(t, l, only(3), 0, api.ErrDup)
	checkFresh(t, l, only(4, 6), 2, api.ErrDup)
	checkFresh(t, l, all, 0, api.ErrDup)
	checkFresh(t, items(3, 3, 5, 5), only(5), 1, api.ErrDup)
	checkFresh(t, items(3, 5, 5, 3), nothing, 2, api.ErrDup)
	checkFresh(t, items(1, 2, 3, 9, 1), only(9), 3, api.ErrDup)
	checkFresh(t, items(1, 2, 3, 1, 9), only(9), 3, api.ErrDup)
}

// Of no items none is there.
func TestP211OfNothing(t *testing.T) {
	for _, l := range [][]api.Item{nil, {}} {
		for _, has := range []question{nothing, all, nil} {
			checkFresh(t, l, has, 0, api.OK)
			checkMissing(t, l, has)
		}
		checkById(t, l, nil)
	}
}

// Numbers play a part alone: things that are the same, or none, are as any others.
func TestP211ThingsPlayNoPart(t *testing.T) {
	thing := api.Object{Tag: api.TagStr, Str: "a"}
	l := []api.Item{{Id: 9, Obj: thing}, {Id: 8, Obj: thing}, {Id: 7}, {Id: 6}}
	checkFresh(t, l, nothing, 4, api.OK)
	checkById(t, l, []api.Item{l[3], l[2], l[1], l[0]})
	checkMissing(t, l, only(8), 9, 7, 6)

	l[3] = api.Item{Id: 9, Obj: api.Object{Tag: -1, Vec: []int32{1}, Str: "b"}}
	checkFresh(t, l, nothing, 3, api.ErrDup)
	checkById(t, l, []api.Item{l[2], l[1], l[0], l[3]})
}

// All short lists, whatever of them is there.
func TestP211AllShort(t *testing.T) {
	for _, l := range lists(5) {
		for _, ids := range sets() {
			checkAll(t, l, only(ids...))
		}
	}
}

func TestP211Mixed(t *testing.T) {
	for seed := range uint64(200) {
		n := int(seed)
		for _, numbers := range []int{1, 3, n + 1, n*n + 1} {
			l := mixed(seed, n, numbers)
			next := drawer(seed + 1000)
			few := []uint64{uint64(next(numbers)), uint64(next(numbers))}
			for _, has := range []question{nothing, all, only(few...), func(id uint64) bool { return id%3 == 1 }} {
				checkAll(t, l, has)
			}
		}
	}
}

// Of numbers that come once, whatever is there, the first one that is there is the place.
func TestP211FreshAtEachPlace(t *testing.T) {
	ids := ends()
	for at, id := range ids {
		checkFresh(t, items(ids...), only(id), at, api.ErrDup)
		checkFresh(t, items(ids...), only(append(slices.Clone(ids[at:]), 77)...), at, api.ErrDup)
		checkFresh(t, items(ids[:at]...), only(id), at, api.OK)
	}
	checkFresh(t, items(ids...), nothing, len(ids), api.OK)
}

// Wherever a number stands for the second time, that is the place.
func TestP211FreshOfTwice(t *testing.T) {
	ids := ends()
	for first, id := range ids {
		for again := first + 1; again <= len(ids); again++ {
			l := items(slices.Insert(slices.Clone(ids), again, id)...)
			checkFresh(t, l, nothing, again, api.ErrDup)
			checkFresh(t, l, only(id), first, api.ErrDup)
		}
	}
}

// Numbers at the ends rise as numbers without a sign do.
func TestP211ByIdAtTheEnds(t *testing.T) {
	ids := ends()
	for turn := range ids {
		turned := slices.Concat(ids[turn:], ids[:turn])
		if got := idsOf(ById(items(turned...))); !slices.Equal(got, ids) {
			t.Errorf("of %v: %v", turned, got)
		}
		slices.Reverse(turned)
		if got := idsOf(ById(items(turned...))); !slices.Equal(got, ids) {
			t.Errorf("of %v: %v", turned, got)
		}
	}
}

// Those of one number stay in the order in which they stand, however many there are.
func TestP211ByIdOfOneNumber(t *testing.T) {
	checkById(t, items(7, 3, 7, 3), []api.Item{item(3, 1), item(3, 3), item(7, 0), item(7, 2)})
	for _, numbers := range []int{1, 2, 7} {
		l := mixed(5, 1<<14, numbers)
		rising := ById(l)
		if len(rising) != len(l) {
			t.Fatal(len(rising))
		}
		for i, x := range rising[1:] {
			ahead := rising[i]
			if ahead.Id > x.Id || ahead.Id == x.Id && ahead.Obj.Vec[0] >= x.Obj.Vec[0] {
				t.Fatalf("of %d numbers, at %d: %v is ahead of %v", numbers, i, ahead, x)
			}
			if !same([]api.Item{x}, l[x.Obj.Vec[0]:x.Obj.Vec[0]+1]) {
				t.Fatalf("of %d numbers, at %d: %v isn't what was there", numbers, i+1, x)
			}
		}
	}
}

// In order is as they stand, each one as often as it stands.
func TestP211Missing(t *testing.T) {
	l := items(7, 3, 9, 3, 7, 1)
	checkMissing(t, l, only(3), 7, 9, 7, 1)
	checkMissing(t, l, only(7, 1), 3, 9, 3)
	checkMissing(t, l, nothing, 7, 3, 9, 3, 7, 1)
	checkMissing(t, l, only(2, 8), 7, 3, 9, 3, 7, 1)
	checkMissing(t, l, all)
	checkMissing(t, l, only(7, 3, 9), 1)
}

func TestP211MissingAtTheEnds(t *testing.T) {
	ids := ends()
	for at, id := range ids {
		checkMissing(t, items(ids...), only(id), slices.Delete(slices.Clone(ids), at, at+1)...)
		checkMissing(t, items(ids...), func(x uint64) bool { return x != id }, id)
	}
}

// As many items as an index may have.
func TestP211OfMany(t *testing.T) {
	ids := make([]uint64, api.MaxObjects)
	for i := range ids {
		// Times an odd number all stay unlike: they are shaken over all numbers there are.
		ids[i] = uint64(i) * 0x9e3779b97f4a7c15
	}
	l := items(ids...)
	checkFresh(t, l, nothing, len(l), api.OK)
	checkFresh(t, l, only(ids[len(ids)-1]), len(l)-1, api.ErrDup)
	checkFresh(t, append(slices.Clone(l), l[0]), nothing, len(l), api.ErrDup)
	odd := Missing(l, func(id uint64) bool { return id%2 == 0 })
	if len(odd) != len(l)/2 || odd[0] != ids[1] || odd[len(odd)-1] != ids[len(ids)-1] {
		t.Error(len(odd), odd[0])
	}

	rising := ById(l)
	slices.Sort(ids)
	if !slices.Equal(idsOf(rising), ids) {
		t.Error("they don't rise")
	}
	for _, x := range rising {
		if at := x.Obj.Vec[0]; l[at].Id != x.Id {
			t.Fatalf("%d has the thing of %d", x.Id, l[at].Id)
		}
	}
}

// What can't be asked doesn't tell that anything is there.
func TestR1NilQuestion(t *testing.T) {
	checkFresh(t, items(5, 3), nil, 2, api.OK)
	checkFresh(t, items(5, 3, 5), nil, 2, api.ErrDup)
	checkMissing(t, items(5, 3, 5), nil, 5, 3, 5)
	for _, l := range lists(4) {
		at, e := fresh(l, nothing)
		checkFresh(t, l, nil, at, e)
		checkMissing(t, l, nil, idsOf(l)...)
	}
}

// What panics doesn't tell anything of that number, but of others it does.
func TestR1QuestionThatPanics(t *testing.T) {
	for _, with := range []any{"no", 1, nil, api.ErrDup} {
		has := func(id uint64) bool {
			if id == 3 {
				panic(with)
			}
			return id == 9
		}
		checkFresh(t, items(3, 5, 9), has, 2, api.ErrDup)
		checkFresh(t, items(9, 3), has, 0, api.ErrDup)
		checkFresh(t, items(3, 5), has, 2, api.OK)
		checkFresh(t, items(3, 5, 3), has, 2, api.ErrDup)
		checkMissing(t, items(9, 3, 5, 3, 9), has, 3, 5, 3)
	}
}

// What is handed in stays as it is, behind its end, too.
func TestR3HandedIn(t *testing.T) {
	handed := func() []api.Item { return append(items(7, 3, 9, 3, 7), item(1, 5), item(0, 6)) }
	l := handed()
	Fresh(l[:5], only(9))
	Missing(l[:5], only(9))
	ById(l[:5])
	if !reflect.DeepEqual(l, handed()) {
		t.Error(l)
	}
}

// What callers write into an answer, or behind it, changes nothing that was handed in, and no other answer.
func TestR3Answered(t *testing.T) {
	for _, ids := range [][]uint64{{7, 3, 9, 3}, {1, 2, 3, 4}, {5}} {
		l := items(ids...)
		want := ById(l)
		got := ById(l)
		for i := range got {
			got[i].Obj.Vec[0] = 99
			_ = append(got[i].Obj.Vec, 99)
			got[i].Id, got[i].Obj = 99, api.Object{}
		}
		_ = append(got, item(99, 99))
		if !reflect.DeepEqual(l, items(ids...)) {
			t.Errorf("of %v: %v", ids, l)
		}
		if again := ById(l); !same(again, want) {
			t.Errorf("of %v: %v, want %v", ids, again, want)
		}

		none := Missing(l, nothing)
		clear(none)
		checkMissing(t, l, nothing, ids...)
	}
}

// Two items that have one vector get one each.
func TestR3OneVectorTwice(t *testing.T) {
	vec := []int32{4, 5}
	l := []api.Item{{Id: 2, Obj: api.Object{Tag: api.TagVec, Vec: vec}}, {Id: 1, Obj: api.Object{Tag: api.TagVec, Vec: vec}}}
	got := ById(l)
	got[0].Obj.Vec[0] = 99
	if got[1].Obj.Vec[0] != 4 || vec[0] != 4 {
		t.Error(got, vec)
	}
}

func TestR4AnswersAreTheSameAgain(t *testing.T) {
	l := mixed(11, 500, 90)
	at, e := Fresh(l, only(8, 9))
	ids := Missing(l, only(8, 9))
	rising := ById(l)
	for range 5 {
		checkFresh(t, l, only(8, 9), at, e)
		checkMissing(t, l, only(8, 9), ids...)
		checkById(t, l, rising)
	}
}
