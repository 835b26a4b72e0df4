package store

import (
	"iter"
	"maps"
	"math"
	"slices"
	"strconv"
	"strings"
	"testing"

	"waywiser/api"
)

// model is the promise in its own words: numbers, each with its thing.
type model map[uint64]api.Object

func (m model) put(x api.Item) api.Errno {
	if _, is := m[x.Id]; is {
		return api.ErrDup
	}
	m[x.Id] = copied(x.Obj)
	return api.OK
}

func (m model) cut(id uint64) api.Errno {
	if _, is := m[id]; !is {
		return api.ErrAbsent
	}
	delete(m, id)
	return api.OK
}

func (m model) items() []api.Item {
	var l []api.Item
	for _, id := range slices.Sorted(maps.Keys(m)) {
		l = append(l, api.Item{Id: id, Obj: m[id]})
	}
	return l
}

// copied is an object in memory of its own.
func copied(x api.Object) api.Object {
	y := api.Object{Tag: x.Tag, Str: x.Str}
	for _, n := range x.Vec {
		y.Vec = append(y.Vec, n)
	}
	return y
}

// alike tells by the fields alone whether two objects are the same.
func alike(x, y api.Object) bool {
	return x.Tag == y.Tag && slices.Equal(x.Vec, y.Vec) && x.Str == y.Str
}

// sameItems tells whether two lists have the same items at the same places.
func sameItems(l, k []api.Item) bool {
	return slices.EqualFunc(l, k, func(x, y api.Item) bool { return x.Id == y.Id && alike(x.Obj, y.Obj) })
}

func vec(l ...int32) api.Object {
	return api.Object{Tag: api.TagVec, Vec: l}
}

func str(s string) api.Object {
	return api.Object{Tag: api.TagStr, Str: s}
}

// objects are things, and objects that are none: a store has them all.
func objects() []api.Object {
	return []api.Object{
		{},
		vec(),
		{Tag: api.TagVec, Vec: []int32{}},
		vec(0),
		vec(3, -4),
		vec(math.MinInt32, math.MaxInt32, 0),
		vec(make([]int32, api.MaxSize+1)...),
		str(""),
		str("a"),
		str("\x00\xff\x80"),
		str(strings.Repeat("x", api.MaxSize+1)),
		{Tag: api.TagVec, Vec: []int32{1, 2}, Str: "both"},
		{Tag: api.TagStr, Vec: []int32{1, 2}, Str: "both"},
		{Tag: -1, Vec: []int32{7}},
		{Tag: 3, Str: "c"},
		{Tag: math.MaxInt, Vec: []int32{1}, Str: "z"},
		{Tag: math.MinInt},
	}
}

// ends are numbers at the ends of all there are.
func ends() []uint64 {
	return []uint64{0, 1, 2, 1<<31 - 1, 1 << 31, 1<<32 - 1, 1 << 32, 1<<63 - 1, 1 << 63, 1<<63 + 1, math.MaxUint64 - 1, math.MaxUint64}
}

// near are the numbers of a model, those beside them, and those at the ends.
func near(m model) []uint64 {
	l := ends()
	for id := range m {
		l = append(l, id-1, id, id+1)
	}
	return l
}

// item has a thing that tells which number it has, and at which step it came.
func item(id uint64, step int) api.Item {
	return api.Item{Id: id, Obj: vec(int32(id), int32(step))}
}

// filled has a thing of step 0 of each number of a list.
func filled(t *testing.T, ids ...uint64) (*Store, model) {
	t.Helper()
	s, m := New(), model{}
	for _, id := range ids {
		do(t, s, m, step{x: item(id, 0)})
	}
	return s, m
}

// upTo are the numbers below n, rising.
func upTo(n int) []uint64 {
	var l []uint64
	for i := range n {
		l = append(l, uint64(i))
	}
	return l
}

// step is one call: it puts an item, or cuts what is of its number.
type step struct {
	cut bool
	x   api.Item
}

// do does a step to both, and holds what they answer against each other.
func do(t *testing.T, s *Store, m model, p step) {
	t.Helper()
	if p.cut {
		if got, want := s.Cut(p.x.Id), m.cut(p.x.Id); got != want {
			t.Fatalf("Cut of %d answers %v, want %v", p.x.Id, got, want)
		}
		return
	}
	if got, want := s.Put(p.x), m.put(p.x); got != want {
		t.Fatalf("Put of %d answers %v, want %v", p.x.Id, got, want)
	}
}

// checkLists asks for all that a store tells of all its things.
func checkLists(t *testing.T, s *Store, m model) {
	t.Helper()
	if s.Len() != len(m) {
		t.Fatalf("Len is %d, want %d", s.Len(), len(m))
	}
	want := m.items()
	if l := s.Items(); !sameItems(l, want) {
		t.Fatalf("Items are %v, want %v", l, want)
	}
	if l := slices.Collect(s.Each()); !sameItems(l, want) {
		t.Fatalf("Each tells %v, want %v", l, want)
	}
}

// checkNumbers asks for all that is told of each of some numbers.
func checkNumbers(t *testing.T, s *Store, m model, ids []uint64) {
	t.Helper()
	for _, id := range ids {
		want, is := m[id]
		if x, ok := s.Get(id); !alike(x, want) || ok != is {
			t.Fatalf("Get of %d is %v, %t, want %v, %t", id, x, ok, want, is)
		}
		if s.Has(id) != is {
			t.Fatalf("Has of %d is %t", id, !is)
		}
	}
}

// checkAll asks for all that a store tells, of numbers that it has and of others.
func checkAll(t *testing.T, s *Store, m model) {
	t.Helper()
	checkLists(t, s, m)
	checkNumbers(t, s, m, near(m))
}

// run does all steps, and asks for all behind each.
func run(t *testing.T, steps []step) {
	t.Helper()
	s, m := New(), model{}
	checkAll(t, s, m)
	for _, p := range steps {
		do(t, s, m, p)
		checkAll(t, s, m)
	}
}

// mixed are n steps in no order, of numbers below top, alike for each seed.
func mixed(seed uint64, n int, top uint64) []step {
	var l []step
	for i := range n {
		seed = seed*6364136223846793005 + 1442695040888963407
		l = append(l, step{cut: seed>>60&1 == 1, x: item(seed>>30%top, i)})
	}
	return l
}

// spoil changes all that can be changed of an object.
func spoil(x *api.Object) {
	for i := range x.Vec {
		x.Vec[i] += 77
	}
	x.Vec = append(x.Vec, 99, 98, 97)
	x.Tag, x.Str = 55, "spoiled"
}

func TestP151New(t *testing.T) {
	s := New()
	if s == nil {
		t.Fatal("New answers nil")
	}
	checkAll(t, s, model{})
	for _, id := range ends() {
		if e := s.Cut(id); e != api.ErrAbsent {
			t.Errorf("Cut of %d of one that has nothing answers %v", id, e)
		}
	}
	checkAll(t, s, model{})
}

func TestP151Example(t *testing.T) {
	s := New()
	first, second := s.Put(api.Item{Id: 3}), s.Put(api.Item{Id: 3})
	if first != api.OK || second != api.ErrDup {
		t.Error(first, second)
	}
}

// All ways to go through five steps of three numbers.
func TestP151AllShort(t *testing.T) {
	const most = 5
	var further func(steps []step)
	further = func(steps []step) {
		if len(steps) == most {
			run(t, steps)
			return
		}
		for id := range uint64(3) {
			x := item(id, len(steps)+1)
			further(append(steps, step{x: x}))
			further(append(steps, step{x: x, cut: true}))
		}
	}
	further(nil)
}

func TestP151Mixed(t *testing.T) {
	for seed := range uint64(20) {
		run(t, mixed(seed, 200, 12))
		run(t, mixed(seed, 200, 60))
	}
}

// Numbers rise by size, without a sign, in whatever order they come and go.
func TestP151Ends(t *testing.T) {
	var steps []step
	for i, id := range ends() {
		steps = append(steps, step{x: item(id, i)})
	}
	run(t, steps)
	slices.Reverse(steps)
	run(t, steps)
	for i, id := range ends() {
		steps = append(steps, step{x: item(id, -1), cut: true}, step{x: item(id, 100+i)})
	}
	run(t, steps)
}

// Whatever stands in an object's fields is had as it is, a zero one, too.
func TestP151Objects(t *testing.T) {
	s, m := New(), model{}
	for i, x := range objects() {
		do(t, s, m, step{x: api.Item{Id: uint64(i), Obj: x}})
		if got, ok := s.Get(uint64(i)); !alike(got, x) || !ok {
			t.Errorf("object %d became another one", i)
		}
	}
	if s.Len() != len(objects()) || !sameItems(s.Items(), m.items()) || !sameItems(slices.Collect(s.Each()), m.items()) {
		t.Error("not all are there")
	}
	for i := range objects() {
		do(t, s, m, step{x: api.Item{Id: uint64(i)}, cut: true})
		if s.Len() != len(m) || !sameItems(s.Items(), m.items()) {
			t.Errorf("object %d isn't cut alone", i)
		}
	}
}

// One thing may be there by many numbers.
func TestP151SameThing(t *testing.T) {
	s, m := New(), model{}
	x := vec(1, 2)
	for id := range uint64(5) {
		do(t, s, m, step{x: api.Item{Id: id, Obj: x}})
	}
	do(t, s, m, step{x: api.Item{Id: 2}, cut: true})
	checkAll(t, s, m)
}

// What is there already stays, whatever other thing comes by its number.
func TestP151PutTwice(t *testing.T) {
	s, m := filled(t, 8, 0, 12, math.MaxUint64)
	for id := range m {
		for _, x := range objects() {
			if e := s.Put(api.Item{Id: id, Obj: x}); e != api.ErrDup {
				t.Errorf("Put of %d, which is there, answers %v", id, e)
			}
		}
		checkAll(t, s, m)
	}
}

func TestP151CutTwice(t *testing.T) {
	s, m := filled(t, 8, 3, 12)
	do(t, s, m, step{x: api.Item{Id: 8}, cut: true})
	for range 2 {
		if e := s.Cut(8); e != api.ErrAbsent {
			t.Errorf("Cut of what is cut answers %v", e)
		}
	}
	checkAll(t, s, m)
}

// What isn't there isn't cut, whatever is beside it.
func TestP151CutOfNone(t *testing.T) {
	s, m := filled(t, 10, 20, 30)
	for _, id := range near(m) {
		if _, is := m[id]; is {
			continue
		}
		if e := s.Cut(id); e != api.ErrAbsent {
			t.Errorf("Cut of %d, which isn't there, answers %v", id, e)
		}
	}
	checkAll(t, s, m)
}

// What is cut is put again with another thing, and has that alone.
func TestP151PutAgain(t *testing.T) {
	s, m := filled(t, upTo(30)...)
	for i := range 30 {
		id := uint64(i*7) % 30
		do(t, s, m, step{x: api.Item{Id: id}, cut: true})
		do(t, s, m, step{x: api.Item{Id: id, Obj: str(strconv.Itoa(i))}})
		checkAll(t, s, m)
	}
}

// Many that are cut and put in another order stay with their own things.
func TestP151SlotsUsedAgain(t *testing.T) {
	for out := range 1 << 6 {
		s, m := filled(t, upTo(6)...)
		for id := range uint64(6) {
			if out>>id&1 == 1 {
				do(t, s, m, step{x: api.Item{Id: id}, cut: true})
			}
		}
		for id := range uint64(6) {
			do(t, s, m, step{x: item(5-id, 1)})
			do(t, s, m, step{x: item(10+id, 2)})
		}
		checkAll(t, s, m)
	}
}

func TestP151Many(t *testing.T) {
	const n = api.MaxObjects
	s := New()
	for i := range n {
		id := uint64(i*40503+11) % n
		if e := s.Put(item(id, 5)); e != api.OK {
			t.Fatalf("Put of %d answers %v", id, e)
		}
	}
	for id := uint64(0); id < n; id += 2 {
		if e := s.Cut(id); e != api.OK {
			t.Fatalf("Cut of %d answers %v", id, e)
		}
	}
	l := s.Items()
	if len(l) != n/2 || s.Len() != n/2 {
		t.Fatalf("Len is %d, Items are %d", s.Len(), len(l))
	}
	for i, x := range l {
		id := uint64(2*i + 1)
		if x.Id != id || !alike(x.Obj, item(id, 5).Obj) {
			t.Fatalf("item no. %d is %v", i, x)
		}
	}
	for id := range uint64(n) {
		if s.Has(id) != (id%2 == 1) {
			t.Fatalf("Has of %d", id)
		}
	}
}

// Each is left at any place, and nothing is told then.
func TestP151EachIsLeft(t *testing.T) {
	s, m := filled(t, 4, 1, 3, 2, 0)
	want := m.items()
	for most := 1; most <= len(want); most++ {
		var l []api.Item
		s.Each()(func(x api.Item) bool {
			l = append(l, x)
			return len(l) < most
		})
		if !sameItems(l, want[:most]) {
			t.Errorf("left at %d, it told %v", most, l)
		}
		l = nil
		for x := range s.Each() {
			l = append(l, x)
			if len(l) == most {
				break
			}
		}
		if !sameItems(l, want[:most]) {
			t.Errorf("a loop left at %d was told %v", most, l)
		}
	}
	checkAll(t, s, m)
}

func TestP151EachOfNothing(t *testing.T) {
	s := New()
	for x := range s.Each() {
		t.Errorf("Each tells %v", x)
	}
	s.Put(item(1, 0))
	s.Cut(1)
	for x := range s.Each() {
		t.Errorf("Each tells %v, which is cut", x)
	}
	s.Each()(nil)
	s.Put(item(1, 0))
	s.Each()(nil)
}

// changes are what may be done while all are gone through.
func changes() []func(t *testing.T, s *Store, m model, at uint64) {
	cut := func(t *testing.T, s *Store, m model, id uint64) { do(t, s, m, step{x: item(id, 9), cut: true}) }
	put := func(t *testing.T, s *Store, m model, id uint64) { do(t, s, m, step{x: item(id, 9)}) }
	return []func(t *testing.T, s *Store, m model, at uint64){
		func(t *testing.T, s *Store, m model, at uint64) { cut(t, s, m, at) },
		func(t *testing.T, s *Store, m model, at uint64) { cut(t, s, m, at+10) },
		func(t *testing.T, s *Store, m model, at uint64) { cut(t, s, m, at-10) },
		func(t *testing.T, s *Store, m model, at uint64) { put(t, s, m, at+1) },
		func(t *testing.T, s *Store, m model, at uint64) { put(t, s, m, at+15) },
		func(t *testing.T, s *Store, m model, at uint64) { put(t, s, m, at-1) },
		func(t *testing.T, s *Store, m model, at uint64) { put(t, s, m, math.MaxUint64-at) },
		func(t *testing.T, s *Store, m model, at uint64) { put(t, s, m, at) },
		func(t *testing.T, s *Store, m model, at uint64) { cut(t, s, m, at+10); put(t, s, m, at+10) },
		func(t *testing.T, s *Store, m model, at uint64) { cut(t, s, m, 50); put(t, s, m, at+3) },
		func(t *testing.T, s *Store, m model, at uint64) {
			for id := range maps.Clone(m) {
				cut(t, s, m, id)
			}
			for id := range uint64(9) {
				put(t, s, m, 10*id)
			}
		},
	}
}

// Each tells those that were there when it began, as they were, whatever is done meanwhile.
func TestP151EachAsItBegan(t *testing.T) {
	for i, change := range changes() {
		for from := range 5 {
			s, m := filled(t, 10, 20, 30, 40, 50)
			want := m.items()
			var l []api.Item
			for x := range s.Each() {
				l = append(l, x)
				if len(l) > from {
					change(t, s, m, x.Id)
				}
			}
			if !sameItems(l, want) {
				t.Errorf("change %d from %d on: Each tells %v", i, from, l)
			}
			checkAll(t, s, m)
		}
	}
}

// It begins where it is gone through, not where it is asked for: each time anew.
func TestP151EachBeginsAnew(t *testing.T) {
	s, m := filled(t, 3, 1)
	each := s.Each()
	for i := range 4 {
		do(t, s, m, step{x: item(uint64(10-i), i)})
		if l := slices.Collect(each); !sameItems(l, m.items()) {
			t.Errorf("Each tells %v, want %v", l, m.items())
		}
		for range each {
			break
		}
		do(t, s, m, step{x: api.Item{Id: 1}, cut: i%2 == 0})
	}
}

// Those that are gone through at once don't disturb each other.
func TestP151EachWithinEach(t *testing.T) {
	s, m := filled(t, upTo(5)...)
	want := m.items()
	var outer []api.Item
	each := s.Each()
	for x := range each {
		outer = append(outer, x)
		if l := slices.Collect(each); !sameItems(l, want) {
			t.Errorf("within, Each tells %v", l)
		}
		if l := s.Items(); !sameItems(l, want) {
			t.Errorf("within, Items are %v", l)
		}
	}
	if !sameItems(outer, want) {
		t.Errorf("Each tells %v", outer)
	}
	next, stop := iter.Pull(each)
	defer stop()
	for _, y := range want {
		if x, ok := next(); !ok || x.Id != y.Id || !alike(x.Obj, y.Obj) {
			t.Errorf("the next one is %v, %t", x, ok)
		}
	}
	if x, ok := next(); ok {
		t.Errorf("there is one more: %v", x)
	}
}

// Where the one who goes through them panics, that is his, and the store stays as it was.
func TestP151EachOfOneThatPanics(t *testing.T) {
	s, m := filled(t, upTo(5)...)
	func() {
		defer func() {
			if recover() != "mine" {
				t.Error("the panic is another one")
			}
		}()
		for range s.Each() {
			panic("mine")
		}
	}()
	checkAll(t, s, m)
}

func TestP152Nil(t *testing.T) {
	var s *Store
	for range 2 {
		for _, id := range ends() {
			for _, x := range objects() {
				if e := s.Put(api.Item{Id: id, Obj: x}); e != api.ErrNil {
					t.Errorf("Put of %d answers %v", id, e)
				}
			}
			if e := s.Cut(id); e != api.ErrNil {
				t.Errorf("Cut of %d answers %v", id, e)
			}
			if x, ok := s.Get(id); !alike(x, api.Object{}) || ok {
				t.Errorf("Get of %d is %v, %t", id, x, ok)
			}
			if s.Has(id) {
				t.Errorf("Has of %d", id)
			}
		}
		if s.Len() != 0 || len(s.Items()) != 0 {
			t.Errorf("Len is %d, Items are %v", s.Len(), s.Items())
		}
		for x := range s.Each() {
			t.Errorf("Each tells %v", x)
		}
		s.Each()(nil)
	}
}

func TestP153HandedIn(t *testing.T) {
	for i, x := range objects() {
		s, m := filled(t, 1, 3)
		y := copied(x)
		y.Vec = slices.Grow(y.Vec, 5)
		do(t, s, m, step{x: api.Item{Id: 2, Obj: y}})
		room := y.Vec[:len(y.Vec)+5]
		for k := range room {
			room[k] += 9
		}
		spoil(&y)
		if got, ok := s.Get(2); !alike(got, x) || !ok {
			t.Errorf("object %d changes with what was handed in", i)
		}
		if !sameItems(s.Items(), m.items()) {
			t.Errorf("Items change with what object %d became", i)
		}
	}
}

// What is handed in isn't changed either: not by what is done to what is answered.
func TestP153HandedInStays(t *testing.T) {
	whole := []int32{1, 2, 3, 4, 5}
	s := New()
	s.Put(api.Item{Id: 1, Obj: vec(whole[:2]...)})
	s.Put(api.Item{Id: 1, Obj: vec(whole...)})
	x, _ := s.Get(1)
	spoil(&x)
	for _, y := range s.Items() {
		spoil(&y.Obj)
	}
	s.Cut(1)
	if !slices.Equal(whole, []int32{1, 2, 3, 4, 5}) {
		t.Errorf("what was handed in became %v", whole)
	}
}

func TestP153Answered(t *testing.T) {
	s, m := New(), model{}
	for i, x := range objects() {
		do(t, s, m, step{x: api.Item{Id: uint64(i), Obj: x}})
	}
	check := func(what string) {
		t.Helper()
		if !sameItems(s.Items(), m.items()) || s.Len() != len(m) {
			t.Errorf("the store changes with what %s answered", what)
		}
	}
	for id := range m {
		x, _ := s.Get(id)
		spoil(&x)
	}
	check("Get")
	l := s.Items()
	for i := range l {
		spoil(&l[i].Obj)
		l[i].Id = 3
	}
	l = append(l[:2], api.Item{Id: 9}, api.Item{Id: 8})
	check("Items")
	for x := range s.Each() {
		spoil(&x.Obj)
	}
	check("Each")
}

// What was answered stays as it was, whatever becomes of the store.
func TestP153AnsweredStays(t *testing.T) {
	s, m := filled(t, upTo(6)...)
	want := m.items()
	x, _ := s.Get(2)
	l, each := s.Items(), slices.Collect(s.Each())
	for id := range uint64(6) {
		s.Cut(id)
	}
	for id := range uint64(20) {
		s.Put(item(id, 7))
	}
	if !sameItems(l, want) || !sameItems(each, want) || !alike(x, want[2].Obj) {
		t.Errorf("what was answered became %v, %v, %v", l, each, x)
	}
}

// Each answer is new memory: what is changed of one isn't changed of another one.
func TestP153EachAnswerItsOwn(t *testing.T) {
	s, m := filled(t, upTo(4)...)
	want := m.items()
	answers := [][]api.Item{s.Items(), s.Items(), slices.Collect(s.Each()), slices.Collect(s.Each())}
	answers = append(answers, nil, nil)
	for _, x := range want {
		for i := 4; i < 6; i++ {
			y, _ := s.Get(x.Id)
			answers[i] = append(answers[i], api.Item{Id: x.Id, Obj: y})
		}
	}
	for i, l := range answers {
		if !sameItems(l, want) {
			t.Errorf("answer %d changes with those ahead of it", i)
		}
		for k := range l {
			spoil(&l[k].Obj)
			if further := l[k+1:]; !sameItems(further, want[k+1:]) {
				t.Errorf("answer %d: item %d shares memory with one behind it", i, k)
			}
		}
	}
}

// What is told by Each may be changed while it goes on; what is told later isn't changed by that.
func TestP153ChangedWithinEach(t *testing.T) {
	s, m := New(), model{}
	x := vec(5, 6)
	for id := range uint64(4) {
		do(t, s, m, step{x: api.Item{Id: id, Obj: x}})
	}
	each := s.Each()
	for range 2 {
		for y := range each {
			if !alike(y.Obj, vec(5, 6)) {
				t.Errorf("Each tells %v", y)
			}
			spoil(&y.Obj)
		}
	}
	x.Vec[0] = 8
	checkAll(t, s, m)
}

func TestR4AskingChangesNothing(t *testing.T) {
	quiet, asked := New(), New()
	m, other := model{}, model{}
	for _, p := range mixed(3, 300, 40) {
		do(t, quiet, m, p)
		checkAll(t, asked, other)
		for id := range other {
			asked.Put(item(id, -9))
		}
		for id := uint64(40); id < 80; id++ {
			asked.Cut(id)
		}
		do(t, asked, other, p)
	}
	checkAll(t, quiet, m)
	checkAll(t, asked, m)
}

func TestR4EachItsOwn(t *testing.T) {
	a, b := New(), New()
	a.Put(item(1, 1))
	if b.Len() != 0 || b.Put(item(1, 2)) != api.OK {
		t.Error("the other one has it, too")
	}
	a.Cut(1)
	if x, ok := b.Get(1); !alike(x, item(1, 2).Obj) || !ok {
		t.Errorf("the other one has %v, %t", x, ok)
	}
}

// However often things come and go, no more is kept than for those that were there at once.
func TestCutKeepsNothing(t *testing.T) {
	s := New()
	for i := range 1000 {
		s.Put(item(uint64(i), 0))
		s.Put(item(uint64(i), 1))
		s.Cut(uint64(i))
		s.Cut(uint64(i))
	}
	if s.things.Slots() != 1 || s.things.Len() != 0 || s.slots.Len() != 0 {
		t.Errorf("of nothing there are %d slots, %d things, %d numbers", s.things.Slots(), s.things.Len(), s.slots.Len())
	}
}
