package heap

import (
	"cmp"
	"math"
	"math/bits"
	"slices"
	"strings"
	"testing"
)

// marked is a thing with a key that orders look at, and a mark that they don't.
type marked struct {
	key, mark int
}

func byKey(a, b marked) int {
	return cmp.Compare(a.key, b.key)
}

func byKeyAndMark(a, b marked) int {
	return cmp.Or(byKey(a, b), cmp.Compare(a.mark, b.mark))
}

// turned is an order turned round.
func turned[T any](order func(a, b T) int) func(a, b T) int {
	return func(a, b T) int { return order(b, a) }
}

// filled is a heap with things pushed, one behind the other.
func filled[T any](order func(a, b T) int, l ...T) *Heap[T] {
	h := New(order)
	for _, x := range l {
		h.Push(x)
	}
	return h
}

// drain pops till nothing is left, or more came than may.
func drain[T any](h *Heap[T], most int) []T {
	var l []T
	for len(l) <= most {
		x, ok := h.Pop()
		if !ok {
			break
		}
		l = append(l, x)
	}
	return l
}

// rising are things in order.
func rising[T any](order func(a, b T) int, l []T) []T {
	l = slices.Clone(l)
	slices.SortStableFunc(l, order)
	return l
}

// mixed are n numbers from 0 to below, in no order, the same ones for each seed.
func mixed(seed uint64, n, below int) []int {
	var l []int
	for range n {
		seed = seed*6364136223846793005 + 1442695040888963407
		l = append(l, int(seed>>33)%below)
	}
	return l
}

// lists are all lists of n of the numbers from 0 to below.
func lists(n, below int) [][]int {
	l := [][]int{nil}
	for range n {
		var longer [][]int
		for _, ahead := range l {
			for x := range below {
				longer = append(longer, append(slices.Clone(ahead), x))
			}
		}
		l = longer
	}
	return l
}

// checkHas looks at a heap of which all things are known, none like another one.
func checkHas[T comparable](t *testing.T, h *Heap[T], want []T) {
	t.Helper()
	if h.Len() != len(want) {
		t.Fatalf("%d things, want %d", h.Len(), len(want))
	}
	var first T
	if len(want) > 0 {
		first = want[0]
	}
	if x, ok := h.Top(); x != first || ok != (len(want) > 0) {
		t.Fatalf("the top is %v, %t, of %v", x, ok, want)
	}
	if l := h.All(); !slices.Equal(l, want) {
		t.Fatalf("all are %v, want %v", l, want)
	}
}

func TestP101NewHasNothing(t *testing.T) {
	h := New(cmp.Compare[int])
	if h == nil {
		t.Fatal("no heap")
	}
	for range 3 {
		checkHas(t, h, nil)
		if x, ok := h.Pop(); x != 0 || ok {
			t.Error(x, ok)
		}
	}
}

func TestP101Example(t *testing.T) {
	h := filled(cmp.Compare[int], 3, 1, 2)
	checkHas(t, h, []int{1, 2, 3})
	if x, ok := h.Pop(); x != 1 || !ok {
		t.Error(x, ok)
	}
	checkHas(t, h, []int{2, 3})
}

// Behind each Push and each Pop all that it has is asked for.
func TestP101CallByCall(t *testing.T) {
	for n := range 6 {
		for _, l := range lists(n, 4) {
			h := New(cmp.Compare[int])
			for i, x := range l {
				h.Push(x)
				checkHas(t, h, rising(cmp.Compare[int], l[:i+1]))
			}
			for left := rising(cmp.Compare[int], l); len(left) > 0; left = left[1:] {
				if x, ok := h.Pop(); x != left[0] || !ok {
					t.Fatalf("of %v: %d, %t, want %d", l, x, ok, left[0])
				}
				checkHas(t, h, left[1:])
			}
			if x, ok := h.Pop(); x != 0 || ok {
				t.Fatalf("of %v, of which nothing is left: %d, %t", l, x, ok)
			}
		}
	}
}

// Push and Pop in any order, held against a list that is sorted anew.
func TestP101AgainstAList(t *testing.T) {
	for seed := range uint64(40) {
		h := New(cmp.Compare[int])
		var model []int
		for i, n := range mixed(seed, 600, 30) {
			// First it grows, then it goes to and fro, then it shrinks.
			if n < 20-i/40 {
				h.Push(n - 9)
				model = rising(cmp.Compare[int], append(model, n-9))
			} else if x, ok := h.Pop(); len(model) == 0 {
				if x != 0 || ok {
					t.Fatalf("of nothing: %d, %t", x, ok)
				}
			} else {
				if x != model[0] || !ok {
					t.Fatalf("%d, %t, want %d", x, ok, model[0])
				}
				model = model[1:]
			}
			checkHas(t, h, model)
		}
	}
}

func TestP101OfAnyOrder(t *testing.T) {
	l := mixed(7, 300, 100)
	byLastFigure := func(a, b int) int { return cmp.Or(cmp.Compare(a%10, b%10), cmp.Compare(b, a)) }
	// Only what is below, at or above 0 is told of two things.
	byDifference := func(a, b int) int { return a - b }
	for _, order := range []func(a, b int) int{cmp.Compare[int], turned(cmp.Compare[int]), byLastFigure, turned(byLastFigure), byDifference} {
		h, want := filled(order, l...), rising(order, l)
		checkHas(t, h, want)
		if got := drain(h, len(l)); !slices.Equal(got, want) {
			t.Errorf("%v, want %v", got, want)
		}
	}
}

func TestP101OfTheEndsOfAllNumbers(t *testing.T) {
	h := filled(cmp.Compare[int], math.MaxInt, 0, math.MinInt, -1, math.MaxInt, math.MinInt)
	checkHas(t, h, []int{math.MinInt, math.MinInt, -1, 0, math.MaxInt, math.MaxInt})
	checkHas(t, filled(turned(cmp.Compare[uint64]), 0, math.MaxUint64, 1<<63), []uint64{math.MaxUint64, 1 << 63, 0})
}

func TestP101OfAnyType(t *testing.T) {
	checkHas(t, filled(strings.Compare, "b", "", "\xff", "ba", "B"), []string{"", "B", "b", "ba", "\xff"})
	checkHas(t, filled(byKeyAndMark, marked{2, 1}, marked{1, 9}, marked{2, 0}), []marked{{1, 9}, {2, 0}, {2, 1}})
	checkHas(t, filled(func(a, b [2]int8) int { return slices.Compare(a[:], b[:]) }, [2]int8{1, -1}, [2]int8{-1, 1}), [][2]int8{{-1, 1}, {1, -1}})
	checkHas(t, filled(func(a, b struct{}) int { return 0 }, struct{}{}, struct{}{}), make([]struct{}, 2))
	p, q := &marked{2, 0}, &marked{1, 0}
	checkHas(t, filled(func(a, b *marked) int { return byKey(*a, *b) }, p, q), []*marked{q, p})
	checkHas(t, filled(func(a, b any) int { return cmp.Compare(a.(int), b.(int)) }, any(2), any(1)), []any{1, 2})
	rows := filled(slices.Compare[[]int], []int{2}, nil, []int{1, 5}, []int{1})
	for _, want := range [][]int{nil, {1}, {1, 5}, {2}} {
		if l, ok := rows.Pop(); !slices.Equal(l, want) || !ok {
			t.Errorf("%v, %t, want %v", l, ok, want)
		}
	}
	if l, ok := rows.Pop(); l != nil || ok {
		t.Error(l, ok)
	}
}

// A zero value that is in it is told with true.
func TestP101ZeroValuesAreThings(t *testing.T) {
	h := filled(cmp.Compare[int], 0, 0)
	for _, n := range []int{2, 1} {
		if x, ok := h.Top(); x != 0 || !ok || h.Len() != n {
			t.Error(x, ok, h.Len())
		}
		if x, ok := h.Pop(); x != 0 || !ok {
			t.Error(x, ok)
		}
	}
	if x, ok := h.Top(); x != 0 || ok {
		t.Error(x, ok)
	}
	if x, ok := h.Pop(); x != 0 || ok || h.Len() != 0 {
		t.Error(x, ok, h.Len())
	}
}

// Of several that are alike any one is told first, but each one is told, once; and what Top tells is what Pop tells.
func TestP101Alike(t *testing.T) {
	for n := range 8 {
		for _, keys := range lists(n, 3) {
			h := New(byKey)
			var l []marked
			for i, k := range keys {
				l = append(l, marked{k, i})
				h.Push(l[i])
			}
			all := h.All()
			if !slices.IsSortedFunc(all, byKey) || !slices.Equal(rising(byKeyAndMark, all), rising(byKeyAndMark, l)) {
				t.Fatalf("all of %v are %v", l, all)
			}
			var popped []marked
			for h.Len() > 0 {
				top, is := h.Top()
				x, ok := h.Pop()
				if x != top || !is || !ok {
					t.Fatalf("of %v: the top %v, %t, popped %v, %t", l, top, is, x, ok)
				}
				popped = append(popped, x)
			}
			if !slices.IsSortedFunc(popped, byKey) || !slices.Equal(rising(byKeyAndMark, popped), rising(byKeyAndMark, l)) {
				t.Fatalf("of %v come %v", l, popped)
			}
		}
	}
}

// Top, Len and All take nothing out, however often they are asked.
func TestP101AskingChangesNothing(t *testing.T) {
	l := mixed(3, 50, 20)
	h := filled(cmp.Compare[int], l...)
	want := rising(cmp.Compare[int], l)
	for range 5 {
		checkHas(t, h, want)
	}
	if got := drain(h, len(l)); !slices.Equal(got, want) {
		t.Errorf("%v, want %v", got, want)
	}
}

func TestP101HeapsAreApart(t *testing.T) {
	up, down := New(cmp.Compare[int]), New(turned(cmp.Compare[int]))
	for i := range 10 {
		up.Push(i)
		down.Push(i)
	}
	up.Pop()
	checkHas(t, up, []int{1, 2, 3, 4, 5, 6, 7, 8, 9})
	checkHas(t, down, []int{9, 8, 7, 6, 5, 4, 3, 2, 1, 0})
	checkHas(t, New(cmp.Compare[int]), nil)
}

// What All answers is new memory: whoever changes it, or puts more behind it, changes nothing else.
func TestP101AllIsNewMemory(t *testing.T) {
	h := filled(cmp.Compare[int], 4, 2, 3, 1)
	h.Pop()
	a, b := h.All(), h.All()
	clear(a)
	a = append(a, 9)
	h.Push(7)
	if !slices.Equal(b, []int{2, 3, 4}) || !slices.Equal(a, []int{0, 0, 0, 9}) {
		t.Error(a, b)
	}
	checkHas(t, h, []int{2, 3, 4, 7})
	h.Pop()
	h.Push(0)
	if !slices.Equal(b, []int{2, 3, 4}) {
		t.Error(b)
	}
}

// What was popped isn't kept in the room behind those that are left.
func TestP101PoppedIsNotKept(t *testing.T) {
	h := New(func(a, b *int) int { return cmp.Compare(*a, *b) })
	for i := range 20 {
		h.Push(&i)
	}
	for range 20 {
		h.Pop()
		for i, p := range h.things[len(h.things):cap(h.things)] {
			if p != nil {
				t.Fatalf("%d behind the last of %d: %d", i, h.Len(), *p)
			}
		}
	}
}

// The first one is at hand: Top asks the order nothing, Push and Pop ask it as often as there are rows, two for each of these at most.
func TestP101FirstIsAtHand(t *testing.T) {
	const n = 1 << 14
	for name, number := range map[string]func(i int) int{
		"rising": func(i int) int { return i }, "falling": func(i int) int { return -i }, "alike": func(int) int { return 0 }, "mixed": func(i int) int { return i * 7919 % n },
	} {
		asked := 0
		h := New(func(a, b int) int { asked++; return cmp.Compare(a, b) })
		check := func(what string, most int) {
			if asked > most {
				t.Fatalf("%s: %s asks %d times of %d things", name, what, asked, h.Len())
			}
			asked = 0
		}
		for i := range n {
			h.Push(number(i))
			check("Push", bits.Len(uint(h.Len())))
		}
		last := math.MinInt
		for h.Len() > 0 {
			top, _ := h.Top()
			check("Top", 0)
			x, ok := h.Pop()
			check("Pop", 2*bits.Len(uint(h.Len())))
			if x != top || x < last || !ok {
				t.Fatalf("%s: %d, %t, behind %d; the top was %d", name, x, ok, last, top)
			}
			last = x
		}
	}
}

func TestP102NilHeap(t *testing.T) {
	checkNil(t, 7)
	checkNil(t, "a")
	checkNil(t, marked{1, 2})
	checkNil(t, new(int))
}

func checkNil[T comparable](t *testing.T, x T) {
	t.Helper()
	var h *Heap[T]
	var zero T
	for range 2 {
		h.Push(x)
		if h.Len() != 0 || len(h.All()) != 0 {
			t.Error(h.Len(), h.All())
		}
		if y, ok := h.Top(); y != zero || ok {
			t.Error(y, ok)
		}
		if y, ok := h.Pop(); y != zero || ok {
			t.Error(y, ok)
		}
	}
}

func TestP103AllThatWerePushedRising(t *testing.T) {
	for n := range 7 {
		for _, l := range lists(n, 5) {
			if got := drain(filled(cmp.Compare[int], l...), n); !slices.Equal(got, rising(cmp.Compare[int], l)) {
				t.Fatalf("of %v: %v", l, got)
			}
		}
	}
}

// Each number of things, as rows of the heap begin, are full, and end between.
func TestP103OfEachNumberOfThings(t *testing.T) {
	for n := range 200 {
		for _, below := range []int{1, 2, 10, 1000} {
			l := mixed(uint64(n), n, below)
			for _, order := range []func(a, b int) int{cmp.Compare[int], turned(cmp.Compare[int])} {
				if got := drain(filled(order, l...), n); !slices.Equal(got, rising(order, l)) {
					t.Fatalf("of %v: %v", l, got)
				}
			}
		}
	}
}

func TestP103OfManyThings(t *testing.T) {
	const n = 1 << 17
	l := mixed(1, n, n)
	h := filled(cmp.Compare[int], l...)
	want := rising(cmp.Compare[int], l)
	checkHas(t, h, want)
	if got := drain(h, n); !slices.Equal(got, want) {
		t.Error("many things don't come rising")
	}
	checkHas(t, h, nil)
}

// What comes behind things that were popped, even behind the last one, is one of those that are left.
func TestP103PushedAgain(t *testing.T) {
	h := New(cmp.Compare[int])
	for range 3 {
		for _, x := range []int{5, 1, 4, 1} {
			h.Push(x)
		}
		h.Pop()
		h.Push(0)
		h.Push(9)
		if got := drain(h, 9); !slices.Equal(got, []int{0, 1, 4, 5, 9}) {
			t.Error(got)
		}
	}
}

// wrongs are functions that are no orders.
func wrongs() map[string]func(a, b int) int {
	coin := uint64(1)
	return map[string]func(a, b int) int{
		"nil":          nil,
		"always ahead": func(a, b int) int { return -1 },
		"never ahead":  func(a, b int) int { return 1 },
		"alike":        func(a, b int) int { return 0 },
		"the ends":     func(a, b int) int { return math.MinInt + (a+b)%2*math.MaxInt },
		"in a ring":    func(a, b int) int { return (a-b+8)%3 - 1 },
		"by lot":       func(a, b int) int { coin = coin*6364136223846793005 + 1; return int(coin>>33)%3 - 1 },
		"panics":       func(a, b int) int { panic("no order") },
		"panics often": func(a, b int) int { return 1 / ((a + b) % 2) },
		"panics nil":   func(a, b int) int { panic(nil) },
	}
}

// Of what is no order no order is promised; but nothing panics, and what was pushed is there, once.
func TestWrongOrders(t *testing.T) {
	for name, order := range wrongs() {
		for n := range 70 {
			l := mixed(uint64(n), n, 10)
			h := filled(order, l...)
			want := rising(cmp.Compare[int], l)
			if all := h.All(); h.Len() != n || !slices.Equal(rising(cmp.Compare[int], all), want) {
				t.Fatalf("%s: %d of %v are %v", name, h.Len(), l, all)
			}
			top, _ := h.Top()
			got := drain(h, n)
			if n > 0 && got[0] != top || !slices.Equal(rising(cmp.Compare[int], got), want) {
				t.Fatalf("%s: of %v come %v, the top was %d", name, l, got, top)
			}
			if x, ok := h.Pop(); x != 0 || ok || h.Len() != 0 {
				t.Fatalf("%s: of nothing %d, %t", name, x, ok)
			}
		}
	}
}

// An order that changes the heap by which it is asked is none, but nothing panics.
func TestOrderThatChangesTheHeap(t *testing.T) {
	for _, change := range []func(h *Heap[int]){
		func(h *Heap[int]) { h.Pop() },
		func(h *Heap[int]) { h.Push(5) },
		func(h *Heap[int]) { drain(h, 50) },
		func(h *Heap[int]) { h.All() },
	} {
		var h *Heap[int]
		within, changes := false, 0
		h = New(func(a, b int) int {
			// Each change asks the order, too; and what puts things in mustn't go on for ever.
			if !within && changes < 200 {
				within = true
				changes++
				change(h)
				within = false
			}
			return cmp.Compare(a, b)
		})
		for _, x := range mixed(5, 40, 20) {
			h.Push(x)
			h.Top()
		}
		for range 40 {
			h.Pop()
		}
		changes = 0
		h.Push(1)
		h.All()
	}
}
