package direct

import (
	"maps"
	"math"
	"slices"
	"testing"

	"waywiser/api"
)

// model is the promise in its own words: numbers, each with its slot.
type model map[uint64]int

func (m model) put(id uint64, slot int) bool {
	_, is := m[id]
	if !is {
		m[id] = slot
	}
	return !is
}

func (m model) cut(id uint64) bool {
	_, is := m[id]
	delete(m, id)
	return is
}

func (m model) ids() []uint64 { return slices.Sorted(maps.Keys(m)) }

func (m model) rank(id uint64) int {
	below := 0
	for other := range m {
		if other < id {
			below++
		}
	}
	return below
}

// ends are numbers at the ends of all there are.
func ends() []uint64 {
	return []uint64{0, 1, 2, 1<<31 - 1, 1 << 31, 1<<32 - 1, 1 << 32, 1<<63 - 1, 1 << 63, 1<<63 + 1, math.MaxUint64 - 1, math.MaxUint64}
}

// slots are slots at the ends of all there are.
func slots() []int {
	return []int{0, 1, -1, 7, math.MaxInt, math.MinInt, math.MaxInt - 1, math.MinInt + 1, 1 << 32, -1 << 32, api.MaxObjects, 0}
}

// noPlaces are places at which no directory of n numbers has one.
func noPlaces(n int) []int {
	return []int{-1, -2, -n, -n - 1, math.MinInt, math.MinInt + 1, n, n + 1, 2*n + 1, math.MaxInt, math.MaxInt - 1, 1 << 32, -1 << 32}
}

// near are numbers, those beside them, and those at the ends.
func near(ids []uint64) []uint64 {
	l := ends()
	for _, id := range ids {
		l = append(l, id-1, id, id+1)
	}
	return l
}

// checkAll asks for all that a directory tells, of numbers that it has and of others.
func checkAll(t *testing.T, d *Dir, m model) {
	t.Helper()
	ids := m.ids()
	if d.Len() != len(ids) {
		t.Fatalf("Len is %d, want %d", d.Len(), len(ids))
	}
	if l := d.Ids(); !slices.Equal(l, ids) {
		t.Fatalf("Ids is %v, want %v", l, ids)
	}
	for i, id := range ids {
		if got, ok := d.At(i); got != id || !ok {
			t.Fatalf("At of %d is %d, %t, want %d", i, got, ok, id)
		}
	}
	for _, i := range noPlaces(len(ids)) {
		if got, ok := d.At(i); got != 0 || ok {
			t.Fatalf("At of %d is %d, %t, of %d numbers", i, got, ok, len(ids))
		}
	}
	checkNumbers(t, d, m, near(ids))
}

// checkNumbers asks for all that is told of each of some numbers.
func checkNumbers(t *testing.T, d *Dir, m model, ids []uint64) {
	t.Helper()
	for _, id := range ids {
		want, is := m[id]
		if slot, ok := d.Find(id); slot != want || ok != is {
			t.Fatalf("Find of %d is %d, %t, want %d, %t", id, slot, ok, want, is)
		}
		rank := d.Rank(id)
		if rank != m.rank(id) {
			t.Fatalf("Rank of %d is %d, want %d", id, rank, m.rank(id))
		}
		if got, ok := d.At(rank); is && (got != id || !ok) {
			t.Fatalf("At of Rank of %d is %d, %t", id, got, ok)
		}
	}
}

// step is one call: it puts a number with a slot, or cuts it.
type step struct {
	cut  bool
	id   uint64
	slot int
}

// do does a step to both, and holds what they answer against each other.
func do(t *testing.T, d *Dir, m model, s step) {
	t.Helper()
	if s.cut {
		if got, want := d.Cut(s.id), m.cut(s.id); got != want {
			t.Fatalf("Cut of %d answers %t", s.id, got)
		}
		return
	}
	if got, want := d.Put(s.id, s.slot), m.put(s.id, s.slot); got != want {
		t.Fatalf("Put of %d answers %t", s.id, got)
	}
}

// run does all steps, and asks for all behind each.
func run(t *testing.T, steps []step) {
	t.Helper()
	d, m := New(), model{}
	checkAll(t, d, m)
	for _, s := range steps {
		do(t, d, m, s)
		checkAll(t, d, m)
		checkShape(t, d)
	}
}

// mixed are n steps in no order, of numbers below top, alike for each seed.
func mixed(seed uint64, n int, top uint64) []step {
	var l []step
	for range n {
		seed = seed*6364136223846793005 + 1442695040888963407
		l = append(l, step{cut: seed>>60&1 == 1, id: seed >> 30 % top, slot: int(seed >> 20 % 1000)})
	}
	return l
}

// orders are all orders of the numbers 1 to n.
func orders(n int) [][]uint64 {
	if n == 0 {
		return [][]uint64{nil}
	}
	var all [][]uint64
	for _, fewer := range orders(n - 1) {
		for at := range n {
			all = append(all, slices.Insert(slices.Clone(fewer), at, uint64(n)))
		}
	}
	return all
}

// filled has the numbers of a list, each with its place there as its slot.
func filled(t *testing.T, ids []uint64) *Dir {
	t.Helper()
	d := New()
	for i, id := range ids {
		if !d.Put(id, i) {
			t.Fatalf("Put of %d answers false", id)
		}
	}
	return d
}

// upTo are the numbers below n, rising.
func upTo(n int) []uint64 {
	var l []uint64
	for i := range n {
		l = append(l, uint64(i))
	}
	return l
}

// shaken are the numbers below n, a power of two, in an order that neither rises nor falls.
func shaken(n int) []uint64 {
	var l []uint64
	for i := range n {
		l = append(l, uint64(i*40503+11)%uint64(n))
	}
	return l
}

// checkShape asks that each node is counted, and has no side that is too heavy: so no walk down is long.
func checkShape(t *testing.T, d *Dir) {
	t.Helper()
	var down func(n *node) int
	down = func(n *node) int {
		if n == nil {
			return 0
		}
		l, h := down(n.kids[low]), down(n.kids[high])
		if n.size != l+h+1 {
			t.Fatalf("%d counts %d, there are %d below it", n.id, n.size, l+h)
		}
		if l+1 > most*(h+1) || h+1 > most*(l+1) {
			t.Fatalf("%d has %d on its low side, %d on its high one", n.id, l, h)
		}
		return n.size
	}
	down(d.top)
}

func TestP141New(t *testing.T) {
	d := New()
	if d == nil {
		t.Fatal("New answers nil")
	}
	checkAll(t, d, model{})
	for _, id := range ends() {
		if d.Cut(id) {
			t.Errorf("Cut of %d, where there is nothing", id)
		}
	}
	checkAll(t, d, model{})
}

func TestP141Example(t *testing.T) {
	d := New()
	if !d.Put(9, 0) || !d.Put(4, 1) {
		t.Error("Put answers false")
	}
	if l := d.Ids(); !slices.Equal(l, []uint64{4, 9}) {
		t.Error(l)
	}
	if n := d.Rank(5); n != 1 {
		t.Error(n)
	}
}

// All ways to go through five steps of three numbers.
func TestP141AllShort(t *testing.T) {
	const most = 5
	var further func(steps []step)
	further = func(steps []step) {
		if len(steps) == most {
			run(t, steps)
			return
		}
		for id := range uint64(3) {
			further(append(steps, step{id: id, slot: len(steps) + 1}))
			further(append(steps, step{id: id, cut: true}))
		}
	}
	further(nil)
}

// Numbers that are put in each order, and cut in each order.
func TestP141AllOrders(t *testing.T) {
	const n = 5
	for _, in := range orders(n) {
		for _, out := range orders(n) {
			var steps []step
			for i, id := range in {
				steps = append(steps, step{id: id, slot: i})
			}
			for _, id := range out {
				steps = append(steps, step{id: id, cut: true})
			}
			run(t, steps)
		}
	}
}

func TestP141Mixed(t *testing.T) {
	for seed := range uint64(20) {
		run(t, mixed(seed, 200, 12))
		run(t, mixed(seed, 200, 60))
	}
}

func TestP141Ends(t *testing.T) {
	var steps []step
	for i, id := range ends() {
		steps = append(steps, step{id: id, slot: slots()[i]})
	}
	run(t, steps)
	slices.Reverse(steps)
	run(t, steps)
	for i, id := range ends() {
		steps = append(steps, step{id: id, cut: true}, step{id: id, slot: i})
	}
	run(t, steps)
}

// Any slot may be put, 0 and those below it, too, and the same one with many numbers.
func TestP141Slots(t *testing.T) {
	d := New()
	for i, slot := range slots() {
		if !d.Put(uint64(i), slot) {
			t.Errorf("Put of %d with %d answers false", i, slot)
		}
	}
	for i, slot := range slots() {
		if got, ok := d.Find(uint64(i)); got != slot || !ok {
			t.Errorf("Find of %d is %d, %t, want %d", i, got, ok, slot)
		}
	}
}

// What is there already stays with its slot.
func TestP141PutTwice(t *testing.T) {
	d := filled(t, []uint64{8, 3, 12, 5})
	m := model{8: 0, 3: 1, 12: 2, 5: 3}
	for id := range m {
		for _, slot := range slots() {
			if d.Put(id, slot) {
				t.Errorf("Put of %d, which is there, answers true", id)
			}
		}
		checkAll(t, d, m)
	}
}

func TestP141CutTwice(t *testing.T) {
	d := filled(t, []uint64{8, 3, 12, 5})
	if !d.Cut(8) || d.Cut(8) || d.Cut(8) {
		t.Error("what isn't there is cut")
	}
	checkAll(t, d, model{3: 1, 12: 2, 5: 3})
}

// What isn't there isn't cut, whatever is beside it.
func TestP141CutOfNone(t *testing.T) {
	d := filled(t, []uint64{10, 20, 30, 40, 50})
	m := model{10: 0, 20: 1, 30: 2, 40: 3, 50: 4}
	for _, id := range near(d.Ids()) {
		if id%10 != 0 || id == 0 {
			if d.Cut(id) {
				t.Errorf("Cut of %d, which isn't there", id)
			}
		}
	}
	checkAll(t, d, m)
}

// What is cut is put again with another slot.
func TestP141PutAgain(t *testing.T) {
	ids := shaken(64)
	d := filled(t, ids)
	m := model{}
	for i, id := range ids {
		m[id] = i
	}
	for i, id := range ids {
		do(t, d, m, step{cut: true, id: id})
		do(t, d, m, step{id: id, slot: -i})
		checkAll(t, d, m)
	}
}

// Whichever number is cut, the others stay with their slots.
func TestP141OthersStay(t *testing.T) {
	for n := range 40 {
		for id := range uint64(n) {
			d, m := filled(t, upTo(n)), model{}
			for i := range n {
				m[uint64(i)] = i
			}
			do(t, d, m, step{cut: true, id: id})
			checkAll(t, d, m)
			checkShape(t, d)
		}
	}
}

// Rows that come and go from their ends, or from within.
func TestP141Rows(t *testing.T) {
	const n = 300
	falling := upTo(n)
	slices.Reverse(falling)
	rows := [][]uint64{upTo(n), falling, {}, {}}
	for i := range uint64(n / 2) {
		rows[2] = append(rows[2], i, n-1-i)
		rows[3] = append(rows[3], n/2-1-i, n/2+i)
	}
	for _, in := range rows {
		for _, out := range rows {
			d, m := filled(t, in), model{}
			for i, id := range in {
				m[id] = i
			}
			for i, id := range out {
				do(t, d, m, step{cut: true, id: id})
				checkShape(t, d)
				if i%50 == 0 {
					checkAll(t, d, m)
				}
			}
			checkAll(t, d, m)
		}
	}
}

// bulk are orders in which as many numbers come as an index may have.
func bulk() [][]uint64 {
	const n = api.MaxObjects
	falling := upTo(n)
	slices.Reverse(falling)
	return [][]uint64{upTo(n), falling, shaken(n)}
}

// In whatever order many numbers come and go, each step is short.
func TestP141Many(t *testing.T) {
	for _, in := range bulk() {
		n := len(in)
		d := filled(t, in)
		checkShape(t, d)
		if l := d.Ids(); d.Len() != n || !slices.Equal(l, upTo(n)) {
			t.Fatalf("Len is %d, Ids are %d", d.Len(), len(l))
		}
		for i, id := range in {
			if slot, ok := d.Find(id); slot != i || !ok {
				t.Fatalf("Find of %d is %d, %t, want %d", id, slot, ok, i)
			}
		}
		for i, id := range in {
			if i < n-10 && !d.Cut(id) {
				t.Fatalf("Cut of %d answers false", id)
			}
		}
		rest := slices.Sorted(slices.Values(in[n-10:]))
		if l := d.Ids(); d.Len() != 10 || !slices.Equal(l, rest) {
			t.Fatalf("Len is %d, Ids is %v, want %v", d.Len(), l, rest)
		}
		checkShape(t, d)
	}
}

// The i-th number of many has i below it.
func TestP142Many(t *testing.T) {
	for _, in := range bulk() {
		d := filled(t, in)
		for i := range in {
			if n := d.Rank(uint64(i)); n != i {
				t.Fatalf("Rank of %d is %d", i, n)
			}
			if id, ok := d.At(i); id != uint64(i) || !ok {
				t.Fatalf("At of %d is %d, %t", i, id, ok)
			}
		}
		if n := d.Rank(math.MaxUint64); n != len(in) {
			t.Errorf("Rank of the greatest one is %d", n)
		}
	}
}

// A number is told apart from those beside it, whether it is there or not.
func TestP142Rank(t *testing.T) {
	d := filled(t, []uint64{30, 10, 20})
	for id, want := range map[uint64]int{
		0: 0, 9: 0, 10: 0, 11: 1, 19: 1, 20: 1, 21: 2, 29: 2, 30: 2, 31: 3,
		1<<63 - 1: 3, 1 << 63: 3, math.MaxUint64: 3,
	} {
		if n := d.Rank(id); n != want {
			t.Errorf("Rank of %d is %d, want %d", id, n, want)
		}
	}
}

// Numbers rise by size, without a sign.
func TestP142Ends(t *testing.T) {
	l := ends()
	for range l {
		l = append(l[1:], l[0])
		d := filled(t, l)
		for i, id := range ends() {
			if n := d.Rank(id); n != i {
				t.Errorf("Rank of %d is %d, want %d", id, n, i)
			}
			if got, ok := d.At(i); got != id || !ok {
				t.Errorf("At of %d is %d, %t, want %d", i, got, ok, id)
			}
		}
		for _, i := range noPlaces(len(l)) {
			if id, ok := d.At(i); id != 0 || ok {
				t.Errorf("At of %d is %d, %t", i, id, ok)
			}
		}
	}
}

// 0 may be a number: then false alone tells that there is none.
func TestP142Zero(t *testing.T) {
	d := filled(t, []uint64{0})
	if id, ok := d.At(0); id != 0 || !ok {
		t.Errorf("At of 0 is %d, %t", id, ok)
	}
	if slot, ok := d.Find(0); slot != 0 || !ok {
		t.Errorf("Find of 0 is %d, %t", slot, ok)
	}
	if !d.Cut(0) {
		t.Error("Cut of 0 answers false")
	}
	if id, ok := d.At(0); id != 0 || ok {
		t.Errorf("At of 0 of none is %d, %t", id, ok)
	}
}

func TestP143Nil(t *testing.T) {
	var d *Dir
	for range 2 {
		for i, id := range ends() {
			if d.Put(id, slots()[i]) {
				t.Errorf("Put of %d answers true", id)
			}
			if d.Cut(id) {
				t.Errorf("Cut of %d answers true", id)
			}
			if slot, ok := d.Find(id); slot != 0 || ok {
				t.Errorf("Find of %d is %d, %t", id, slot, ok)
			}
			if n := d.Rank(id); n != 0 {
				t.Errorf("Rank of %d is %d", id, n)
			}
		}
		for _, i := range append(noPlaces(0), 0, 1) {
			if id, ok := d.At(i); id != 0 || ok {
				t.Errorf("At of %d is %d, %t", i, id, ok)
			}
		}
		if d.Len() != 0 || len(d.Ids()) != 0 {
			t.Errorf("Len is %d, Ids is %v", d.Len(), d.Ids())
		}
	}
}

// At of Rank of a number that it has is that number, whichever are there.
func TestP144WhichAreThere(t *testing.T) {
	const n = 10
	for cut := range 1 << n {
		d := filled(t, shaken(1 << n)[:n])
		ids := d.Ids()
		for i, id := range ids {
			if cut>>i&1 == 1 {
				d.Cut(id)
			}
		}
		for i, id := range ids {
			got, ok := d.At(d.Rank(id))
			if is := cut>>i&1 == 0; is && (got != id || !ok) || !is && got == id && ok {
				t.Fatalf("of the cut %b, At of Rank of %d is %d, %t", cut, id, got, ok)
			}
		}
	}
}

func TestR3NewMemory(t *testing.T) {
	d := filled(t, []uint64{5, 1, 3})
	l := d.Ids()
	for i := range l {
		l[i] = 99
	}
	l = append(l, 8)
	if again := d.Ids(); !slices.Equal(again, []uint64{1, 3, 5}) {
		t.Errorf("Ids is %v, behind a change of what it answered", again)
	}
	before := d.Ids()
	d.Put(2, 0)
	d.Cut(5)
	if !slices.Equal(before, []uint64{1, 3, 5}) {
		t.Errorf("what Ids answered became %v", before)
	}
}

func TestR4AskingChangesNothing(t *testing.T) {
	quiet, asked := New(), New()
	m, other := model{}, model{}
	for _, s := range mixed(3, 300, 40) {
		do(t, quiet, m, s)
		checkAll(t, asked, other)
		for _, id := range other.ids() {
			asked.Put(id, -9)
		}
		for id := uint64(40); id < 80; id++ {
			asked.Cut(id)
		}
		do(t, asked, other, s)
	}
	checkAll(t, quiet, m)
	checkAll(t, asked, m)
}

func TestR4EachItsOwn(t *testing.T) {
	a, b := New(), New()
	a.Put(1, 10)
	if b.Len() != 0 || !b.Put(1, 20) {
		t.Error("the other one has it, too")
	}
	a.Cut(1)
	if slot, ok := b.Find(1); slot != 20 || !ok {
		t.Errorf("the other one has %d, %t", slot, ok)
	}
}
