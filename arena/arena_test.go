package arena

import (
	"errors"
	"math"
	"slices"
	"strconv"
	"testing"

	"waywiser/api"
)

// model is the promise in its own words: what is in which slot, and the slots that are free, as they became free.
type model struct {
	slots int
	in    map[int]string
	free  []int
}

func newModel() *model {
	return &model{in: map[int]string{}}
}

func (m *model) put(x string) int {
	slot := m.slots
	if n := len(m.free); n > 0 {
		slot = m.free[n-1]
		m.free = m.free[:n-1]
	} else {
		m.slots++
	}
	m.in[slot] = x
	return slot
}

func (m *model) set(slot int, x string) bool {
	_, is := m.in[slot]
	if is {
		m.in[slot] = x
	}
	return is
}

func (m *model) cut(slot int) bool {
	_, is := m.in[slot]
	if is {
		delete(m.in, slot)
		m.free = append(m.free, slot)
	}
	return is
}

func (m *model) used() []int {
	var l []int
	for slot := range m.slots {
		if _, is := m.in[slot]; is {
			l = append(l, slot)
		}
	}
	return l
}

// none are slots that no arena has.
func none() []int {
	return []int{-1, -2, math.MinInt, math.MinInt + 1, math.MaxInt, math.MaxInt - 1, 1 << 32, -1 << 32, 1<<32 + 1, api.MaxObjects + 1}
}

// checkCounts asks for what is told of all slots.
func checkCounts(t *testing.T, a *Arena[string], m *model) {
	t.Helper()
	if a.Len() != len(m.in) {
		t.Fatalf("Len is %d, want %d", a.Len(), len(m.in))
	}
	if a.Slots() != m.slots {
		t.Fatalf("Slots is %d, want %d", a.Slots(), m.slots)
	}
	if l := a.Used(); !slices.Equal(l, m.used()) {
		t.Fatalf("Used is %v, want %v", l, m.used())
	}
}

// checkAll asks for all that an arena tells, of slots that there are, and of some behind them.
func checkAll(t *testing.T, a *Arena[string], m *model) {
	t.Helper()
	checkCounts(t, a, m)
	for slot := -2; slot < m.slots+3; slot++ {
		want, is := m.in[slot]
		if x, ok := a.Get(slot); x != want || ok != is {
			t.Fatalf("Get of %d is %q, %t, want %q, %t", slot, x, ok, want, is)
		}
	}
}

// step is one call: 0 puts, 1 sets, 2 cuts.
type step struct {
	call, slot int
}

// do does a step to both, and holds what they answer against each other.
func do(t *testing.T, a *Arena[string], m *model, s step, x string) {
	t.Helper()
	switch s.call {
	case 0:
		if got, want := a.Put(x), m.put(x); got != want {
			t.Fatalf("Put answers %d, want %d", got, want)
		}
	case 1:
		if got, want := a.Set(s.slot, x), m.set(s.slot, x); got != want {
			t.Fatalf("Set of %d answers %t", s.slot, got)
		}
	case 2:
		if got, want := a.Cut(s.slot), m.cut(s.slot); got != want {
			t.Fatalf("Cut of %d answers %t", s.slot, got)
		}
	}
}

// run does all steps, and asks for all behind each.
func run(t *testing.T, steps []step) {
	t.Helper()
	a, m := New[string](), newModel()
	checkAll(t, a, m)
	for i, s := range steps {
		do(t, a, m, s, strconv.Itoa(i))
		checkAll(t, a, m)
	}
}

// some are steps of few slots, and of some that there are not.
func some() []step {
	l := []step{{0, 0}}
	for slot := -1; slot < 3; slot++ {
		l = append(l, step{1, slot}, step{2, slot})
	}
	return l
}

// mixed are n steps in no order, alike for each seed.
func mixed(seed uint64, n int) []step {
	var l []step
	for range n {
		seed = seed*6364136223846793005 + 1442695040888963407
		l = append(l, step{call: int(seed>>33) % 3, slot: int(seed>>40) % 30})
	}
	return l
}

// filled has the numbers below n, each in the slot of that number.
func filled(t *testing.T, n int) *Arena[int] {
	t.Helper()
	a := New[int]()
	for i := range n {
		if slot := a.Put(i); slot != i {
			t.Fatalf("Put no. %d answers %d", i, slot)
		}
	}
	return a
}

func TestP131New(t *testing.T) {
	a := New[string]()
	if a == nil {
		t.Fatal("New answers nil")
	}
	checkAll(t, a, newModel())
	for _, slot := range append(none(), 0, 1, 2) {
		if x, ok := a.Get(slot); x != "" || ok {
			t.Errorf("Get of %d of one without slots is %q, %t", slot, x, ok)
		}
		if a.Set(slot, "x") || a.Cut(slot) {
			t.Errorf("Set or Cut of %d of one without slots", slot)
		}
	}
	checkAll(t, a, newModel())
}

func TestP131Example(t *testing.T) {
	a := New[string]()
	if n := a.Put("a"); n != 0 {
		t.Error(n)
	}
	if n := a.Put("b"); n != 1 {
		t.Error(n)
	}
	if !a.Cut(0) {
		t.Error("0 isn't cut")
	}
	if n := a.Put("c"); n != 0 {
		t.Error(n)
	}
	if x, ok := a.Get(0); x != "c" || !ok {
		t.Error(x, ok)
	}
}

// All ways to go through six steps of few slots.
func TestP131AllShort(t *testing.T) {
	const most = 6
	var further func(steps []step)
	further = func(steps []step) {
		if len(steps) == most {
			run(t, steps)
			return
		}
		for _, s := range some() {
			further(append(steps, s))
		}
	}
	further([]step{{0, 0}, {0, 0}})
	further([]step{{0, 0}, {0, 0}, {0, 0}})
	for _, first := range some() {
		for _, second := range some() {
			for _, third := range some() {
				run(t, []step{first, second, third})
			}
		}
	}
}

func TestP131Mixed(t *testing.T) {
	for seed := range uint64(60) {
		run(t, mixed(seed, 400))
	}
}

// Of slots that became free in each order, the one that became free last is the first to be used again.
func TestP131LastFreeFirst(t *testing.T) {
	const n = 5
	var orders func(ahead []int)
	orders = func(ahead []int) {
		a := filled(t, n)
		for _, slot := range ahead {
			if !a.Cut(slot) {
				t.Fatalf("%d isn't cut, of %v", slot, ahead)
			}
		}
		for i := len(ahead) - 1; i >= 0; i-- {
			if slot := a.Put(9); slot != ahead[i] {
				t.Fatalf("Put answers %d, %v became free", slot, ahead)
			}
		}
		if slot := a.Put(9); slot != n {
			t.Fatalf("Put answers %d, none of %d is free", slot, n)
		}
		for slot := range n {
			if !slices.Contains(ahead, slot) {
				orders(append(slices.Clone(ahead), slot))
			}
		}
	}
	orders(nil)
}

// What is cut, used and cut again became free by the last of these.
func TestP131FreeAgain(t *testing.T) {
	a := filled(t, 3)
	a.Cut(0)
	a.Cut(1)
	if slot := a.Put(7); slot != 1 {
		t.Fatalf("Put answers %d, want 1", slot)
	}
	a.Cut(2)
	a.Cut(1)
	for _, want := range []int{1, 2, 0, 3} {
		if slot := a.Put(8); slot != want {
			t.Errorf("Put answers %d, want %d", slot, want)
		}
	}
}

func TestP131CutTwice(t *testing.T) {
	a := filled(t, 2)
	if !a.Cut(0) || a.Cut(0) || a.Cut(0) {
		t.Error("what is free is cut")
	}
	if a.Len() != 1 || a.Slots() != 2 {
		t.Errorf("Len is %d, Slots is %d", a.Len(), a.Slots())
	}
	for _, want := range []int{0, 2, 3} {
		if slot := a.Put(8); slot != want {
			t.Errorf("Put answers %d, want %d", slot, want)
		}
	}
}

// A slot that is cut stays a slot, though there is nothing in any.
func TestP131AllCut(t *testing.T) {
	a := filled(t, 4)
	for slot := range 4 {
		a.Cut(slot)
	}
	if a.Len() != 0 || a.Slots() != 4 || len(a.Used()) != 0 {
		t.Errorf("Len is %d, Slots is %d, Used is %v", a.Len(), a.Slots(), a.Used())
	}
	for slot := range 4 {
		if x, ok := a.Get(slot); x != 0 || ok {
			t.Errorf("Get of %d is %d, %t", slot, x, ok)
		}
	}
}

// What is free isn't set: it stays free, and in its turn.
func TestP131SetOfFree(t *testing.T) {
	a := filled(t, 3)
	a.Cut(2)
	a.Cut(1)
	if a.Set(2, 9) || a.Set(1, 9) || a.Set(3, 9) || a.Set(-1, 9) {
		t.Error("what has nothing is set")
	}
	if x, ok := a.Get(2); x != 0 || ok {
		t.Errorf("Get of a free one is %d, %t", x, ok)
	}
	if l := a.Used(); !slices.Equal(l, []int{0}) {
		t.Errorf("Used is %v", l)
	}
	if first, second := a.Put(5), a.Put(6); first != 1 || second != 2 {
		t.Errorf("Put answers %d, %d", first, second)
	}
}

func TestP131NoSlots(t *testing.T) {
	a := filled(t, 3)
	for _, slot := range append(none(), 3, 4) {
		if x, ok := a.Get(slot); x != 0 || ok {
			t.Errorf("Get of %d is %d, %t", slot, x, ok)
		}
		if a.Set(slot, 9) || a.Cut(slot) {
			t.Errorf("Set or Cut of %d", slot)
		}
	}
	if a.Len() != 3 || a.Slots() != 3 || !slices.Equal(a.Used(), []int{0, 1, 2}) {
		t.Errorf("Len is %d, Slots is %d, Used is %v", a.Len(), a.Slots(), a.Used())
	}
	for slot := range 3 {
		if x, ok := a.Get(slot); x != slot || !ok {
			t.Errorf("Get of %d is %d, %t", slot, x, ok)
		}
	}
}

// checkType puts things of a type, zero values and others.
func checkType[T any](t *testing.T, same func(a, b T) bool, x T) {
	t.Helper()
	var zero T
	a := New[T]()
	if a.Put(zero) != 0 || a.Put(x) != 1 {
		t.Fatalf("Put of %v", x)
	}
	if got, ok := a.Get(0); !ok || !same(got, zero) {
		t.Errorf("Get of a zero value is %v, %t", got, ok)
	}
	if got, ok := a.Get(1); !ok || !same(got, x) {
		t.Errorf("Get of %v is %v, %t", x, got, ok)
	}
	if got, ok := a.Get(2); ok || !same(got, zero) {
		t.Errorf("Get of no slot is %v, %t", got, ok)
	}
	if a.Len() != 2 || !slices.Equal(a.Used(), []int{0, 1}) {
		t.Errorf("Len is %d, Used is %v", a.Len(), a.Used())
	}
	if !a.Set(1, zero) || !a.Set(0, x) {
		t.Error("Set of what is full")
	}
	if got, ok := a.Get(0); !ok || !same(got, x) {
		t.Errorf("Get of what is set is %v, %t", got, ok)
	}
	if !a.Cut(0) || !a.Cut(1) {
		t.Error("Cut of what is full")
	}
	if got, ok := a.Get(0); ok || !same(got, zero) {
		t.Errorf("Get of a free one is %v, %t", got, ok)
	}
}

// It is of any type; that there is something is told of zero values, too.
func TestP131Types(t *testing.T) {
	n := 7
	checkType(t, func(a, b struct{}) bool { return a == b }, struct{}{})
	checkType(t, func(a, b bool) bool { return a == b }, true)
	checkType(t, func(a, b uint8) bool { return a == b }, 255)
	checkType(t, func(a, b *int) bool { return a == b }, &n)
	checkType(t, func(a, b any) bool { return a == b }, any("x"))
	checkType(t, func(a, b error) bool { return a == nil && b == nil || errors.Is(a, b) }, error(api.ErrDup))
	checkType(t, func(a, b [3]int) bool { return a == b }, [3]int{1, 2, 3})
	checkType(t, func(a, b api.Hit) bool { return a == b }, api.Hit{Id: math.MaxUint64, Dist: -1})
	checkType(t, slices.Equal[[]int], []int{1, 2})
	checkType(t, func(a, b map[int]int) bool { return len(a) == len(b) && a[1] == b[1] }, map[int]int{1: 2})
	checkType(t, func(a, b func() int) bool { return (a == nil) == (b == nil) }, func() int { return 1 })
	checkType(t, func(a, b *Arena[int]) bool { return a == b }, New[int]())
}

func TestP131Many(t *testing.T) {
	const n = api.MaxObjects + 1
	a := filled(t, n)
	if a.Len() != n || a.Slots() != n {
		t.Fatalf("Len is %d, Slots is %d", a.Len(), a.Slots())
	}
	for slot := 0; slot < n; slot += 2 {
		if !a.Cut(slot) {
			t.Fatalf("%d isn't cut", slot)
		}
	}
	l := a.Used()
	if len(l) != n/2 || a.Len() != n/2 || a.Slots() != n {
		t.Fatalf("Len is %d, Slots is %d, Used are %d", a.Len(), a.Slots(), len(l))
	}
	for i, slot := range l {
		if slot != 2*i+1 {
			t.Fatalf("Used no. %d is %d", i, slot)
		}
	}
	for slot := n - 1; slot >= 0; slot -= 2 {
		if got := a.Put(-slot); got != slot {
			t.Fatalf("Put answers %d, want %d", got, slot)
		}
	}
	for slot := range n {
		want := slot
		if slot%2 == 0 {
			want = -slot
		}
		if x, ok := a.Get(slot); x != want || !ok {
			t.Fatalf("Get of %d is %d, %t", slot, x, ok)
		}
	}
}

// With many that are free, each step is as short as with few.
func TestP131ManyFree(t *testing.T) {
	const n = api.MaxObjects
	a := filled(t, n)
	for slot := range n {
		a.Cut(slot)
	}
	for range n {
		if slot := a.Put(1); slot != n-1 {
			t.Fatalf("Put answers %d, want %d", slot, n-1)
		}
		a.Cut(n - 1)
	}
	if a.Len() != 0 || a.Slots() != n {
		t.Errorf("Len is %d, Slots is %d", a.Len(), a.Slots())
	}
}

func TestP132Nil(t *testing.T) {
	var a *Arena[string]
	for range 3 {
		if n := a.Put("x"); n != -1 {
			t.Errorf("Put answers %d", n)
		}
	}
	if a.Len() != 0 || a.Slots() != 0 || len(a.Used()) != 0 {
		t.Errorf("Len is %d, Slots is %d, Used is %v", a.Len(), a.Slots(), a.Used())
	}
	for _, slot := range append(none(), 0, 1) {
		if x, ok := a.Get(slot); x != "" || ok {
			t.Errorf("Get of %d is %q, %t", slot, x, ok)
		}
		if a.Set(slot, "y") || a.Cut(slot) {
			t.Errorf("Set or Cut of %d", slot)
		}
	}
}

// However many slots come, and whatever is done to others, what is put stays.
func TestP133Stays(t *testing.T) {
	const n = 3000
	a := New[int]()
	first := a.Put(-1)
	for i := range n {
		a.Put(i)
		if i%3 == 0 {
			a.Cut(first + 1 + i/2)
		}
		if i%5 == 0 {
			a.Set(first+1+i/3, -7)
		}
		if x, ok := a.Get(first); x != -1 || !ok {
			t.Fatalf("behind %d others it is %d, %t", i+1, x, ok)
		}
		if used := a.Used(); i%100 == 0 && used[0] != first {
			t.Fatalf("behind %d others the first one used is %d", i+1, used[0])
		}
	}
	a.Cut(first)
	if x, ok := a.Get(first); x != 0 || ok {
		t.Errorf("cut, it is %d, %t", x, ok)
	}
}

// Each slot tells what was put there last, whichever are cut.
func TestP133WhichAreCut(t *testing.T) {
	const n = 10
	for cut := range 1 << n {
		a := filled(t, n)
		for slot := range n {
			if cut>>slot&1 == 1 {
				a.Cut(slot)
			}
		}
		for slot := range n {
			gone := cut>>slot&1 == 1
			if x, ok := a.Get(slot); ok == gone || !gone && x != slot {
				t.Fatalf("of the cut %b, %d is %d, %t", cut, slot, x, ok)
			}
		}
	}
}

func TestR3NewMemory(t *testing.T) {
	a := filled(t, 4)
	a.Cut(1)
	l := a.Used()
	for i := range l {
		l[i] = -5
	}
	l = append(l, 8)
	if again := a.Used(); !slices.Equal(again, []int{0, 2, 3}) {
		t.Errorf("Used is %v, behind a change of what it answered", again)
	}
	before := a.Used()
	a.Put(7)
	a.Cut(0)
	if !slices.Equal(before, []int{0, 2, 3}) {
		t.Errorf("what Used answered became %v", before)
	}
}

// A thing is a value: what was got isn't changed by what is set.
func TestR3Values(t *testing.T) {
	a := New[[2]int]()
	x := [2]int{1, 2}
	a.Put(x)
	x[0] = 9
	got, _ := a.Get(0)
	got[1] = 8
	if now, _ := a.Get(0); now != [2]int{1, 2} {
		t.Errorf("it is %v", now)
	}
	got, _ = a.Get(0)
	a.Set(0, [2]int{5, 6})
	if got != [2]int{1, 2} {
		t.Errorf("what was got is %v", got)
	}
}

func TestR4AskingChangesNothing(t *testing.T) {
	quiet, asked := New[string](), New[string]()
	m, other := newModel(), newModel()
	for i, s := range mixed(3, 300) {
		x := strconv.Itoa(i)
		do(t, quiet, m, s, x)
		for _, slot := range append(none(), m.slots, m.slots+1) {
			asked.Get(slot)
			asked.Set(slot, "no")
			asked.Cut(slot)
		}
		asked.Used()
		do(t, asked, other, s, x)
		checkAll(t, asked, other)
	}
	checkAll(t, quiet, m)
	if !slices.Equal(quiet.Used(), asked.Used()) {
		t.Errorf("%v are used, and where it was asked more, %v", quiet.Used(), asked.Used())
	}
}

func TestR4EachItsOwn(t *testing.T) {
	a, b := New[string](), New[string]()
	a.Put("a")
	a.Put("aa")
	if b.Slots() != 0 || b.Put("b") != 0 {
		t.Errorf("the other one has %d slots", b.Slots())
	}
	a.Cut(0)
	if x, ok := b.Get(0); x != "b" || !ok {
		t.Errorf("the other one has %q, %t", x, ok)
	}
}

// What is cut isn't kept: neither where it was, nor where a wider room came in the place of its own.
func TestCutKeepsNothing(t *testing.T) {
	a := New[*int]()
	for i := range 9 {
		a.Put(&i)
	}
	for slot := range 9 {
		a.Cut(slot)
	}
	for i, c := range a.room {
		if c.thing != nil || c.full {
			t.Errorf("%d is kept", i)
		}
	}
}

// The slots have no room behind them.
func TestSlotsHaveNoRoomBehind(t *testing.T) {
	a := New[int]()
	for i := range 100 {
		a.Put(i)
		if len(a.slots) != i+1 || cap(a.slots) != i+1 {
			t.Fatalf("%d slots, with room for %d", len(a.slots), cap(a.slots))
		}
	}
}
