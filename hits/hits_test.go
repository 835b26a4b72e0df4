package hits

import (
	"cmp"
	"math"
	"slices"
	"testing"

	"waywiser/api"
)

// of are hits by their numbers: Dist, Id, Dist, Id ..
func of(l ...int) []api.Hit {
	var hits []api.Hit
	for i := 0; i+1 < len(l); i += 2 {
		hits = append(hits, api.Hit{Dist: l[i], Id: uint64(l[i+1])})
	}
	return hits
}

// few are hits of which each one is as far as others, or has the Id of others, or both.
func few() []api.Hit {
	return of(1, 1, 1, 2, 2, 1, 2, 2)
}

// ends are hits whose numbers are at the ends of all there are, rising.
func ends() []api.Hit {
	var l []api.Hit
	for _, dist := range []int{math.MinInt, math.MinInt + 1, -1, 0, 1, api.MaxDist, math.MaxInt - 1, math.MaxInt} {
		for _, id := range []uint64{0, 1, 1<<63 - 1, 1 << 63, math.MaxUint64} {
			l = append(l, api.Hit{Dist: dist, Id: id})
		}
	}
	return l
}

// lists are all lists of n of the few.
func lists(n int) [][]api.Hit {
	all := [][]api.Hit{nil}
	for range n {
		var longer [][]api.Hit
		for _, ahead := range all {
			for _, h := range few() {
				longer = append(longer, append(slices.Clone(ahead), h))
			}
		}
		all = longer
	}
	return all
}

// upTo are all lists of at most n of the few.
func upTo(n int) [][]api.Hit {
	var all [][]api.Hit
	for i := range n + 1 {
		all = append(all, lists(i)...)
	}
	return all
}

// mixed are n hits in no order, the same ones for each seed.
func mixed(seed uint64, n int) []api.Hit {
	var l []api.Hit
	for range n {
		seed = seed*6364136223846793005 + 1442695040888963407
		l = append(l, api.Hit{Dist: int(seed>>33)%20 - 2, Id: seed >> 20 % 30})
	}
	return l
}

// ahead is the promise's own words: the lesser Dist, of the same the lesser Id.
func ahead(a, b api.Hit) bool {
	return a.Dist < b.Dist || a.Dist == b.Dist && a.Id < b.Id
}

// rising puts each hit in behind all that it isn't ahead of.
func rising(l []api.Hit) []api.Hit {
	var sorted []api.Hit
	for _, h := range l {
		at := len(sorted)
		for at > 0 && ahead(h, sorted[at-1]) {
			at--
		}
		sorted = slices.Insert(sorted, at, h)
	}
	return sorted
}

// rises tells whether none is ahead of the one ahead of it.
func rises(l []api.Hit) bool {
	for i := 1; i < len(l); i++ {
		if ahead(l[i], l[i-1]) {
			return false
		}
	}
	return true
}

// within are those that are at most r away, as they stand.
func within(l []api.Hit, r int) []api.Hit {
	var near []api.Hit
	for i := range l {
		if l[i].Dist <= r {
			near = append(near, l[i])
		}
	}
	return near
}

func checkSame(t *testing.T, what string, got, want []api.Hit) {
	t.Helper()
	if !slices.Equal(got, want) {
		t.Fatalf("%s: %v, want %v", what, got, want)
	}
}

func TestP111CmpOfTheEnds(t *testing.T) {
	l := ends()
	for i, a := range l {
		for j, b := range l {
			want := cmp.Compare(i, j)
			if got := Cmp(a, b); got != want {
				t.Errorf("Cmp of %v, %v: %d, want %d", a, b, got, want)
			}
		}
	}
}

func TestP111CmpAsksDistFirst(t *testing.T) {
	if got := Cmp(api.Hit{Id: 9, Dist: 1}, api.Hit{Id: 2, Dist: 3}); got != -1 {
		t.Errorf("1 away, and 3 away: %d", got)
	}
	if got := Cmp(api.Hit{Id: 7, Dist: 3}, api.Hit{Id: 2, Dist: 3}); got != 1 {
		t.Errorf("both 3 away, 7 and 2: %d", got)
	}
}

func TestP111Example(t *testing.T) {
	checkSame(t, "Sort", Sort(of(3, 7, 3, 2, 1, 9)), of(1, 9, 3, 2, 3, 7))
}

func TestP111SortKeepsWhatIsTheSame(t *testing.T) {
	checkSame(t, "of one, thrice", Sort(of(2, 5, 2, 5, 2, 5)), of(2, 5, 2, 5, 2, 5))
	checkSame(t, "others between", Sort(of(2, 5, 1, 5, 2, 5, 2, 4, 1, 5)), of(1, 5, 1, 5, 2, 4, 2, 5, 2, 5))
	checkSame(t, "of nothing", Sort(nil), nil)
	checkSame(t, "of no hits", Sort([]api.Hit{}), nil)
}

func TestP111SortAndSorted(t *testing.T) {
	all := upTo(5)
	for seed := range uint64(60) {
		all = append(all, mixed(seed, int(seed)*3))
	}
	for _, l := range all {
		sorted := Sort(l)
		checkSame(t, "Sort", sorted, rising(l))
		if got := Sorted(l); got != rises(l) {
			t.Fatalf("Sorted of %v: %t", l, got)
		}
		if !Sorted(sorted) {
			t.Fatalf("Sorted of the Sort of %v: false", l)
		}
	}
}

func TestP111SortOfTheEnds(t *testing.T) {
	l := ends()
	turned := slices.Clone(l)
	slices.Reverse(turned)
	if !Sorted(l) || Sorted(turned) {
		t.Error(Sorted(l), Sorted(turned))
	}
	checkSame(t, "turned round", Sort(turned), l)
}

// Wherever two neighbours of a rising list change places, it rises no longer.
func TestP111SortedLooksAtAll(t *testing.T) {
	l := ends()
	for i := 1; i < len(l); i++ {
		changed := slices.Clone(l)
		changed[i-1], changed[i] = changed[i], changed[i-1]
		if Sorted(changed) {
			t.Errorf("%d and %d about: true", i-1, i)
		}
	}
}

func TestP112Within(t *testing.T) {
	for _, l := range upTo(4) {
		for r := range 4 {
			checkSame(t, "Within", Within(l, r), within(l, r))
			checkSame(t, "Within of what rises", Within(rising(l), r), rising(within(l, r)))
		}
	}
	for seed := range uint64(30) {
		l := mixed(seed, 100)
		for r := -4; r < 20; r++ {
			checkSame(t, "Within", Within(l, r), within(l, r))
		}
	}
}

func TestP112WithinAtTheEdge(t *testing.T) {
	l := of(3, 7, 3, 2, 1, 9)
	checkSame(t, "at most 3", Within(l, 3), l)
	checkSame(t, "at most 2", Within(l, 2), of(1, 9))
	checkSame(t, "at most 1", Within(l, 1), of(1, 9))
	checkSame(t, "at most 0", Within(l, 0), nil)
	checkSame(t, "below 0", Within(l, -1), nil)
	checkSame(t, "0 away, below 0", Within(of(0, 1), -1), nil)
	checkSame(t, "0 away, at most 0", Within(of(0, 1), 0), of(0, 1))
	checkSame(t, "of nothing", Within(nil, api.MaxDist), nil)
}

func TestP112WithinAtTheEnds(t *testing.T) {
	l := ends()
	checkSame(t, "all", Within(l, math.MaxInt), l)
	checkSame(t, "all but the farthest", Within(l, math.MaxInt-1), l[:len(l)-5])
	checkSame(t, "the farthest there may be", Within(l, api.MaxDist), l[:len(l)-10])
	checkSame(t, "below 0", Within(l, -1), l[:15])
	checkSame(t, "the least", Within(l, math.MinInt), l[:5])
}

func TestP112First(t *testing.T) {
	for _, l := range [][]api.Hit{nil, {}, of(3, 7), of(3, 7, 3, 2, 1, 9), mixed(1, 50)} {
		for k := -3; k < len(l)+3; k++ {
			want := l
			if k < 0 {
				want = nil
			} else if k < len(l) {
				want = l[:k]
			}
			checkSame(t, "First", First(l, k), want)
		}
		checkSame(t, "the most", First(l, math.MaxInt), l)
		checkSame(t, "the least", First(l, math.MinInt), nil)
	}
}

func TestP112MergeOfTwoThatRise(t *testing.T) {
	checkSame(t, "Merge", Merge(of(1, 9, 3, 2, 3, 2), of(2, 1, 3, 3)), of(1, 9, 2, 1, 3, 2, 3, 2, 3, 3))
	checkSame(t, "one ends earlier", Merge(of(5, 1), of(1, 1, 2, 2, 7, 3, 8, 4)), of(1, 1, 2, 2, 5, 1, 7, 3, 8, 4))
	checkSame(t, "all behind", Merge(of(1, 1, 1, 2), of(1, 3, 2, 0)), of(1, 1, 1, 2, 1, 3, 2, 0))
	checkSame(t, "all ahead", Merge(of(1, 3, 2, 0), of(1, 1, 1, 2)), of(1, 1, 1, 2, 1, 3, 2, 0))
	checkSame(t, "the same", Merge(of(1, 1, 2, 2), of(1, 1, 2, 2)), of(1, 1, 1, 1, 2, 2, 2, 2))
	checkSame(t, "nothing ahead", Merge(nil, of(1, 1)), of(1, 1))
	checkSame(t, "nothing behind", Merge(of(1, 1), []api.Hit{}), of(1, 1))
	checkSame(t, "nothing", Merge(nil, nil), nil)
}

// Also of others, where one of both rises, or none.
func TestP112MergeOfAnyTwo(t *testing.T) {
	all := upTo(3)
	for _, a := range all {
		for _, b := range all {
			checkSame(t, "Merge", Merge(a, b), rising(slices.Concat(a, b)))
		}
	}
}

func TestP112MergeOfTheEnds(t *testing.T) {
	l := ends()
	for step := 2; step < 5; step++ {
		var a, b []api.Hit
		for i, h := range l {
			if i%step == 0 {
				a = append(a, h)
			} else {
				b = append(b, h)
			}
		}
		checkSame(t, "Merge", Merge(a, b), l)
		checkSame(t, "Merge, changed about", Merge(b, a), l)
	}
}

func TestP113Ids(t *testing.T) {
	for _, test := range []struct {
		l    []api.Hit
		want []uint64
	}{
		{nil, nil},
		{[]api.Hit{}, nil},
		{of(3, 7), []uint64{7}},
		{of(3, 7, 3, 2, 1, 9), []uint64{7, 2, 9}},
		{of(1, 9, 3, 2, 3, 7), []uint64{9, 2, 7}},
		{of(2, 5, 1, 5, 2, 5), []uint64{5, 5, 5}},
		{[]api.Hit{{Id: math.MaxUint64}, {Id: 0}, {Id: 1 << 63}}, []uint64{math.MaxUint64, 0, 1 << 63}},
	} {
		if got := Ids(test.l); !slices.Equal(got, test.want) {
			t.Errorf("Ids of %v: %v, want %v", test.l, got, test.want)
		}
	}
}

func TestP113Find(t *testing.T) {
	l := of(3, 7, 3, 2, 1, 9, 1, 2, 0, 0)
	for _, want := range []api.Hit{l[0], l[1], l[2], l[4]} {
		if got, ok := Find(l, want.Id); got != want || !ok {
			t.Errorf("Find of %d: %v, %t, want %v", want.Id, got, ok, want)
		}
	}
	for _, id := range []uint64{1, 3, 8, 1 << 63, math.MaxUint64} {
		if got, ok := Find(l, id); got != (api.Hit{}) || ok {
			t.Errorf("Find of %d, which isn't there: %v, %t", id, got, ok)
		}
	}
	if got, ok := Find(nil, 0); got != (api.Hit{}) || ok {
		t.Errorf("Find in nothing: %v, %t", got, ok)
	}
	far := api.Hit{Id: math.MaxUint64, Dist: math.MinInt}
	if got, ok := Find([]api.Hit{{Id: 1<<63 - 1}, far}, far.Id); got != far || !ok {
		t.Errorf("Find of the greatest Id: %v, %t", got, ok)
	}
}

// Wherever a list is cut in two, what was sorted of both is merged to the Sort of all.
func TestP114MergeOfWhatWasSorted(t *testing.T) {
	for seed := range uint64(40) {
		l := mixed(seed, 60)
		want := rising(l)
		checkSame(t, "Sort", Sort(l), want)
		for cut := range len(l) + 1 {
			checkSame(t, "Merge", Merge(Sort(l[:cut]), Sort(l[cut:])), want)
		}
	}
}

// As many hits as an index may have things.
func TestP114OfMany(t *testing.T) {
	l := mixed(3, api.MaxObjects)
	for i := range l {
		l[i].Id = uint64(i)
	}
	half := len(l) / 2
	all := Sort(l)
	checkSame(t, "Merge", Merge(Sort(l[:half]), Sort(l[half:])), all)
	if len(all) != len(l) || !Sorted(all) {
		t.Error(len(all), Sorted(all))
	}
}

// answered are the lists that all calls answer of l and a second list.
func answered(l, second []api.Hit) [][]api.Hit {
	return [][]api.Hit{
		Sort(l), Within(l, math.MaxInt), Within(l, 1), First(l, len(l)), First(l, 2), First(l, math.MaxInt),
		Merge(l, second), Merge(second, l), Merge(l, nil), Merge(nil, l),
	}
}

func TestR3WhatIsHandedInStays(t *testing.T) {
	for _, l := range [][]api.Hit{of(3, 7, 3, 2, 1, 9), of(1, 9, 3, 2, 3, 7)} {
		for _, second := range [][]api.Hit{nil, of(2, 2, 1, 1), of(1, 1, 2, 2)} {
			l, second := append(l, of(8, 8)...)[:3], append(second, of(8, 8)...)[:len(second)]
			whole, wholeSecond := slices.Clone(l[:4]), slices.Clone(second[:len(second)+1])
			lists := answered(l, second)
			Cmp(l[0], l[1])
			Sorted(l)
			Ids(l)
			Find(l, 2)
			// What callers write into an answer, or behind it, changes no list that was handed in.
			for _, answer := range lists {
				for i := range answer {
					answer[i] = api.Hit{Id: 77, Dist: 77}
				}
				_ = append(answer, api.Hit{Id: 77, Dist: 77})
			}
			checkSame(t, "the list", l[:4], whole)
			checkSame(t, "the second list", second[:len(second)+1], wholeSecond)
		}
	}
}

func TestR4AnswersAreTheSameAgain(t *testing.T) {
	l, second := mixed(5, 40), mixed(6, 30)
	first, again := answered(l, second), answered(l, second)
	for i := range first {
		checkSame(t, "again", again[i], first[i])
	}
}
