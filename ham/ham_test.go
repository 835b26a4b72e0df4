package ham

import (
	"math"
	"slices"
	"strings"
	"testing"

	"waywiser/api"
)

// texts are none, all short ones of two letters, and some of bytes that are noughts, the greatest ones, or pieces of runes.
func texts() []string {
	l := []string{"", "c", "abc", "axcd", "cba", "aabb", "bbaa", "aaaa", "bbbb", "aaaaa", "xabc", "kitten", "sitting"}
	for _, s := range []string{"\x00", "\x00\x00", "a\x00", "\x00a", "\xff", "\x00\xff", "\xff\x00", "\x7f", "\x80", "\x81", "A", "é", "è", "e\u0301", "日本", "日木", "\xe6", "\xe6\x97", " ", "a "} {
		l = append(l, s)
	}
	short := []string{""}
	for range 3 {
		var longer []string
		for _, s := range short {
			longer = append(longer, s+"a", s+"b")
		}
		l = append(l, longer...)
		short = longer
	}
	return l
}

// others tells by the document's words at which places, of those that both have, bytes are others.
func others(a, b string) []int {
	x, y := []byte(a), []byte(b)
	var l []int
	for i := 0; i < len(x) && i < len(y); i++ {
		if x[i] != y[i] {
			l = append(l, i)
		}
	}
	return l
}

// apart tells by the document's words how far two texts are apart.
func apart(a, b string) int {
	d := len(others(a, b))
	for n := len(a); n < len(b); n++ {
		d++
	}
	for n := len(b); n < len(a); n++ {
		d++
	}
	return d
}

func TestP71Dist(t *testing.T) {
	for _, c := range []struct {
		a, b string
		want int
	}{
		{"abc", "axcd", 2}, {"ab", "ac", 1}, {"ab", "cb", 1}, {"abc", "abc", 0}, {"abc", "cba", 2}, {"aaaa", "bbbb", 4}, {"abab", "baba", 4},
		{"", "", 0}, {"", "a", 1}, {"", "abc", 3}, {"a", "abc", 2}, {"ab", "abc", 1}, {"b", "abc", 3}, {"bc", "abc", 3}, {"x", "abc", 3}, {"xbc", "abcde", 3},
		{"kitten", "sitting", 3}, {"kitten", "xkitten", 6}, {"a", "A", 1}, {"a", "a ", 1}, {"a", " a", 2},
		{"\x00", "", 1}, {"\x00", "\x00\x00", 1}, {"a", "a\x00", 1}, {"\x00", "\xff", 1}, {"\x7f", "\x80", 1}, {"a\x00b", "a\x00c", 1}, {"\x00\xff", "\xff\x00", 2},
		{"é", "è", 1}, {"é", "e", 2}, {"日本", "日木", 1}, {"日本", "日日", 2}, {"日本", "日", 3}, {"\xff\xfe", "\xff\xfd", 1}, {"\xff", "\ufffd", 3},
	} {
		if got, back := Dist(c.a, c.b), Dist(c.b, c.a); got != c.want || back != c.want {
			t.Errorf("%q and %q: %d, the other way %d, want %d", c.a, c.b, got, back, c.want)
		}
	}
}

func TestP71DistOfEach(t *testing.T) {
	for _, a := range texts() {
		for _, b := range texts() {
			if got, want := Dist(a, b), apart(a, b); got != want {
				t.Errorf("%q and %q: %d, want %d", a, b, got, want)
			}
		}
	}
}

// Each of two bytes may be any.
func TestP71DistOfEachByte(t *testing.T) {
	for x := range 256 {
		for y := range 256 {
			a, b := "ab"+string([]byte{byte(x)})+"c", "ab"+string([]byte{byte(y)})+"c"
			want := 1
			if x == y {
				want = 0
			}
			if got := Dist(a, b); got != want {
				t.Errorf("%q and %q: %d, want %d", a, b, got, want)
			}
			if got, ok := Upto(a, b, 0); got != 0 || ok != (x == y) {
				t.Errorf("%q and %q up to 0: %d, %t", a, b, got, ok)
			}
			if got := Places(a, b); len(got) != want || want == 1 && got[0] != 2 {
				t.Errorf("%q and %q: places %v", a, b, got)
			}
		}
	}
}

// As many bytes as a thing has at most, and more of them, which are no thing any more.
func TestP71DistOfManyBytes(t *testing.T) {
	for _, n := range []int{100, api.MaxSize - 1, api.MaxSize, api.MaxSize + 1, 1 << 20} {
		same := strings.Repeat("a", n)
		for _, c := range []struct {
			what, a, b string
			want       int
		}{
			{"all", same, strings.Repeat("b", n), n}, {"none", same, strings.Repeat("a", n), 0}, {"each second one", strings.Repeat("ab", n/2), strings.Repeat("aa", n/2), n / 2},
			{"the first one", same, "b" + same[1:], 1}, {"the last one", same, same[1:] + "b", 1}, {"one less", same, same[1:], 1}, {"one in front", same, "b" + same, 2}, {"nothing", same, "", n},
		} {
			if got, back := Dist(c.a, c.b), Dist(c.b, c.a); got != c.want || back != c.want {
				t.Errorf("%s of %d: %d, the other way %d, want %d", c.what, n, got, back, c.want)
			}
			if got := Places(c.a, c.b); !slices.Equal(got, others(c.a, c.b)) {
				t.Errorf("%s of %d: %d places, want %d", c.what, n, len(got), len(others(c.a, c.b)))
			}
			checkUpto(t, c.a, c.b, c.want)
		}
	}
}

// checkUpto asks for what is d apart with less, as much and more to be had.
func checkUpto(t *testing.T, a, b string, d int) {
	t.Helper()
	for _, most := range []int{math.MinInt, math.MinInt + 1, -d - 1, -d, -2, -1, 0, 1, 2, d / 2, d - 2, d - 1, d, d + 1, d + 2, 2 * d, math.MaxInt32, math.MaxUint32, api.MaxDist, math.MaxInt - 1, math.MaxInt} {
		want := 0
		if d <= most {
			want = d
		}
		if got, ok := Upto(a, b, most); got != want || ok != (d <= most) {
			t.Errorf("of %d up to %d: %d, %t", d, most, got, ok)
		}
	}
}

func TestP71Upto(t *testing.T) {
	for _, c := range []struct {
		a, b string
		most int
		want int
		ok   bool
	}{
		{"abc", "axcd", 2, 2, true}, {"abc", "axcd", 3, 2, true}, {"abc", "axcd", 1, 0, false}, {"abc", "axcd", 0, 0, false}, {"abc", "axcd", -2, 0, false}, {"abc", "axcd", math.MinInt, 0, false}, {"abc", "axcd", math.MaxInt, 2, true},
		{"", "", 0, 0, true}, {"", "", 1, 0, true}, {"", "", -1, 0, false}, {"", "", math.MinInt, 0, false}, {"", "", math.MaxInt, 0, true},
		{"abc", "abc", 0, 0, true}, {"abc", "abc", -1, 0, false}, {"abc", "abd", 0, 0, false}, {"abc", "abd", 1, 1, true}, {"abc", "xbc", 0, 0, false}, {"abc", "xbc", 1, 1, true},
		{"", "abc", 3, 3, true}, {"", "abc", 2, 0, false}, {"", "abc", 0, 0, false}, {"a", "abc", 2, 2, true}, {"a", "abc", 1, 0, false}, {"x", "abc", 3, 3, true}, {"x", "abc", 2, 0, false},
		{"aaaa", "bbbb", 4, 4, true}, {"aaaa", "bbbb", 3, 0, false}, {"aaaa", "bbbb", 1, 0, false}, {"\x00", "\xff", 0, 0, false}, {"é", "è", 1, 1, true}, {"é", "è", 0, 0, false},
	} {
		if got, ok := Upto(c.a, c.b, c.most); got != c.want || ok != c.ok {
			t.Errorf("%q and %q up to %d: %d, %t", c.a, c.b, c.most, got, ok)
		}
		if got, ok := Upto(c.b, c.a, c.most); got != c.want || ok != c.ok {
			t.Errorf("%q and %q up to %d: %d, %t", c.b, c.a, c.most, got, ok)
		}
	}
}

func TestP71UptoOfEach(t *testing.T) {
	for _, a := range texts() {
		for _, b := range texts() {
			checkUpto(t, a, b, apart(a, b))
		}
	}
}

func TestP71Places(t *testing.T) {
	for _, c := range []struct {
		a, b string
		want []int
	}{
		{"abcd", "xbxd", []int{0, 2}}, {"abc", "axcd", []int{1}}, {"abc", "cba", []int{0, 2}}, {"aaaa", "bbbb", []int{0, 1, 2, 3}}, {"abc", "abd", []int{2}},
		{"", "", nil}, {"abc", "abc", nil}, {"", "abc", nil}, {"ab", "abc", nil}, {"b", "abc", []int{0}}, {"bc", "abc", []int{0, 1}}, {"ax", "abcde", []int{1}},
		{"\x00", "\xff", []int{0}}, {"\x00", "\x00\x00", nil}, {"é", "è", []int{1}}, {"aé", "aè", []int{2}}, {"日本", "日木", []int{5}}, {"日本", "日日", []int{4, 5}},
	} {
		if got, back := Places(c.a, c.b), Places(c.b, c.a); !slices.Equal(got, c.want) || !slices.Equal(back, c.want) {
			t.Errorf("%q and %q: %v, the other way %v, want %v", c.a, c.b, got, back, c.want)
		}
	}
}

func TestP71PlacesOfEach(t *testing.T) {
	for _, a := range texts() {
		for _, b := range texts() {
			got := Places(a, b)
			if !slices.Equal(got, others(a, b)) || !slices.IsSorted(got) {
				t.Errorf("%q and %q: %v, want %v", a, b, got, others(a, b))
			}
			if d := len(got) + max(len(a), len(b)) - min(len(a), len(b)); d != Dist(a, b) {
				t.Errorf("%q and %q: %v, by which they are %d apart, and not %d", a, b, got, d, Dist(a, b))
			}
		}
	}
}

func TestP72Pairs(t *testing.T) {
	for _, c := range []struct {
		l    []string
		want []int
	}{
		{nil, nil}, {[]string{}, nil}, {[]string{""}, nil}, {[]string{"abc"}, nil},
		{[]string{"", ""}, []int{0}}, {[]string{"a", "a"}, []int{0}}, {[]string{"abc", "axcd"}, []int{2}}, {[]string{"axcd", "abc"}, []int{2}},
		{[]string{"a", "b", "bc"}, []int{1, 1}}, {[]string{"a", "abcd", "abcd", ""}, []int{3, 0, 4}}, {[]string{"", "abcd", "abcd", "a"}, []int{4, 0, 3}},
		{[]string{"b", "a", "b", "a"}, []int{1, 1, 1}}, {[]string{"é", "è", "\xff"}, []int{1, 2}},
	} {
		if got := Pairs(c.l); !slices.Equal(got, c.want) {
			t.Errorf("%q: %v, want %v", c.l, got, c.want)
		}
	}
}

func TestP72PairsOfMany(t *testing.T) {
	all := texts()
	for n := range len(all) + 1 {
		l := all[:n]
		got := Pairs(l)
		if len(got) != max(n-1, 0) {
			t.Fatalf("of %d: %d", n, len(got))
		}
		for i, d := range got {
			if want := apart(l[i], l[i+1]); d != want {
				t.Errorf("of %d, %q and %q: %d, want %d", n, l[i], l[i+1], d, want)
			}
		}
	}
	// One more each time: no two pairs have the same answer.
	var rising []string
	var want []int
	for n := range 100 {
		rising = append(rising, strings.Repeat("a", n*(n+1)/2))
		if n > 0 {
			want = append(want, n)
		}
	}
	if got := Pairs(rising); !slices.Equal(got, want) {
		t.Errorf("of rising ones: %v", got)
	}
}

func TestP73NoneJustOfTheSame(t *testing.T) {
	for _, a := range texts() {
		for _, b := range texts() {
			if got := Dist(a, b); (got == 0) != (a == b) || got < 0 {
				t.Errorf("%q and %q: %d", a, b, got)
			}
			if got, ok := Upto(a, b, 0); got != 0 || ok != (a == b) {
				t.Errorf("%q and %q up to 0: %d, %t", a, b, got, ok)
			}
		}
		// The same bytes, elsewhere in memory.
		if other := string([]byte(a)); Dist(a, other) != 0 || len(Places(a, other)) != 0 {
			t.Errorf("%q and itself: %d, %v", a, Dist(a, other), Places(a, other))
		}
	}
}

func TestP73TheSameBothWays(t *testing.T) {
	for _, a := range texts() {
		for _, b := range texts() {
			if Dist(a, b) != Dist(b, a) || !slices.Equal(Places(a, b), Places(b, a)) {
				t.Errorf("%q and %q: %d, %v, the other way %d, %v", a, b, Dist(a, b), Places(a, b), Dist(b, a), Places(b, a))
			}
		}
	}
}

func TestP73NoLessByAThird(t *testing.T) {
	for _, a := range texts() {
		for _, b := range texts() {
			for _, c := range texts() {
				if Dist(a, c)+Dist(c, b) < Dist(a, b) {
					t.Errorf("%q and %q: %d, by %q %d and %d", a, b, Dist(a, b), c, Dist(a, c), Dist(c, b))
				}
			}
		}
	}
}

// No call changes what it is handed, or the room behind it, and no answer is another one's memory.
func TestListsStayAsTheyAre(t *testing.T) {
	whole := []string{"abc", "axcd", "", "b", "last"}
	for n := range len(whole) {
		l := whole[:n]
		clear(Pairs(l))
		if !slices.Equal(whole, []string{"abc", "axcd", "", "b", "last"}) {
			t.Fatal(n, whole)
		}
	}
	places, pairs := Places("abcd", "xbxx"), Pairs(whole)
	clear(Places("abcd", "xbxx"))
	clear(Pairs(whole))
	if !slices.Equal(places, []int{0, 2, 3}) || !slices.Equal(pairs, []int{2, 4, 1, 4}) {
		t.Error(places, pairs)
	}
}
