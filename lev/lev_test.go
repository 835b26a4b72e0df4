package lev

import (
	"math"
	"strings"
	"testing"

	"waywiser/api"
)

// letters of ways stand here in the order by which one way is ahead of another one.
const letters = "=!-+"

// short answers all texts of at most so many of some bytes.
func short(of string, most int) []string {
	all, last := []string{""}, []string{""}
	for range most {
		var longer []string
		for _, s := range last {
			for i := range len(of) {
				longer = append(longer, s+of[i:i+1])
			}
		}
		all = append(all, longer...)
		last = longer
	}
	return all
}

// texts are all short ones of two letters, and some of words, noughts, the greatest bytes, and pieces of runes.
func texts() []string {
	return append(short("ab", 3), "c", "abc", "axcd", "cba", "aabb", "bbaa", "abab", "baba", "aaaaa", "xabcx", "xaccx", "kitten", "sitting", "flaw", "lawn",
		"\x00", "\x00\x00", "a\x00", "\x00a", "\xff", "\x00\xff", "\xff\x00", "\x7f", "\x80", "A", " ", "a ", "é", "è", "e\u0301", "日本", "日木", "\xe6", "\xe6\x97", "=!-+")
}

// drawn answers a text of so many of the first few letters; each seed has another one.
func drawn(n, few int, seed uint64) string {
	b := make([]byte, n)
	for i := range b {
		seed = seed*6364136223846793005 + 1442695040888963407
		b[i] = 'a' + byte((seed>>33)%uint64(few))
	}
	return string(b)
}

// twos are texts at the edges of as many rows as are gone through at once, of which some are near, and some not.
func twos() [][2]string {
	var l [][2]string
	for _, n := range []int{1, 2, 31, 62, 63, 64, 65, 66, 126, 127, 128, 129, 130, 192, 193} {
		for _, m := range []int{1, 7, 63, 64, 65, 128, 150} {
			for few := 1; few <= 5; few += 2 {
				l = append(l, [2]string{drawn(n, few, uint64(n)), drawn(m, few, uint64(1000+m))})
			}
		}
		s := drawn(n, 3, uint64(n))
		l = append(l, [2]string{s, s}, [2]string{s, s[1:] + "x"}, [2]string{s, "x" + s[1:]}, [2]string{s + "ab", "ba" + s}, [2]string{s[:n/2] + "xyz" + s[n/2:], s}, [2]string{s, s + s}, [2]string{s, ""}, [2]string{"", s})
	}
	return l
}

// neighbours answers what one edit makes of a text, of bytes of a few.
func neighbours(s, of string) []string {
	var l []string
	for i := range len(s) + 1 {
		for j := range len(of) {
			l = append(l, s[:i]+of[j:j+1]+s[i:])
			if i < len(s) {
				l = append(l, s[:i]+of[j:j+1]+s[i+1:])
			}
		}
		if i < len(s) {
			l = append(l, s[:i]+s[i+1:])
		}
	}
	return l
}

// reached answers how few edits make each text, of at most so many of a few bytes, of one: all that one edit makes, then all that two make.
func reached(from, of string, most int) map[string]int {
	seen := map[string]int{from: 0}
	for edge := []string{from}; len(edge) > 0; {
		var next []string
		for _, s := range edge {
			for _, to := range neighbours(s, of) {
				if _, is := seen[to]; !is && len(to) <= most {
					seen[to] = seen[s] + 1
					next = append(next, to)
				}
			}
		}
		edge = next
	}
	return seen
}

// apart tells by a whole table, from the left, how few edits there are.
func apart(a, b string) int {
	row := make([]int, len(b)+1)
	for j := range row {
		row[j] = j
	}
	for i := range len(a) {
		ahead := row[0]
		row[0] = i + 1
		for j := range len(b) {
			d := ahead
			if a[i] != b[j] {
				d = 1 + min(ahead, row[j], row[j+1])
			}
			ahead, row[j+1] = row[j+1], d
		}
	}
	return row[len(b)]
}

// lacks tells by the document's words how many bytes of a, counted by their values, b lacks.
func lacks(a, b string) int {
	n := 0
	for v := range 256 {
		s := string([]byte{byte(v)})
		n += max(0, strings.Count(a, s)-strings.Count(b, s))
	}
	return n
}

// ahead tells whether a way is better than another one: by fewer edits, then letter by letter.
func ahead(x, y string) bool {
	if c, d := edits(x), edits(y); c != d {
		return c < d
	}
	for i := 0; i < len(x) && i < len(y); i++ {
		if x[i] != y[i] {
			return strings.IndexByte(letters, x[i]) < strings.IndexByte(letters, y[i])
		}
	}
	return len(x) < len(y)
}

// edits tells how many letters of a way aren't =.
func edits(way string) int {
	return len(way) - strings.Count(way, "=")
}

// ways answers all ways from a to b.
func ways(a, b string) []string {
	if a == "" && b == "" {
		return []string{""}
	}
	var l []string
	on := func(letter, a, b string) {
		for _, w := range ways(a, b) {
			l = append(l, letter+w)
		}
	}
	if a != "" && b != "" && a[0] == b[0] {
		on("=", a[1:], b[1:])
	}
	if a != "" && b != "" && a[0] != b[0] {
		on("!", a[1:], b[1:])
	}
	if a != "" {
		on("-", a[1:], b)
	}
	if b != "" {
		on("+", a, b[1:])
	}
	return l
}

// best tells by a table of ways, from the right, the way that is ahead of all.
func best(a, b string) string {
	row := make([]string, len(b)+1)
	for j := range row {
		row[j] = strings.Repeat("+", len(b)-j)
	}
	for i := len(a) - 1; i >= 0; i-- {
		behind := row[len(b)]
		row[len(b)] = "-" + behind
		for j := len(b) - 1; j >= 0; j-- {
			way := "=" + behind
			if a[i] != b[j] {
				way = "!" + behind
			}
			for _, w := range []string{"-" + row[j], "+" + row[j+1]} {
				if ahead(w, way) {
					way = w
				}
			}
			behind, row[j] = row[j], way
		}
	}
	return row[0]
}

func TestP81Dist(t *testing.T) {
	for _, c := range []struct {
		a, b string
		want int
	}{
		{"kitten", "sitting", 3}, {"ab", "b", 1}, {"", "", 0}, {"", "a", 1}, {"", "abc", 3}, {"abc", "abc", 0}, {"flaw", "lawn", 2}, {"abcd", "badc", 3}, {"ab", "ba", 2}, {"abc", "cba", 2},
		{"abc", "xyzw", 4}, {"abc", "axcd", 2}, {"aaaa", "bbbb", 4}, {"abab", "baba", 2}, {"abc", "xabc", 1}, {"abc", "axbc", 1}, {"abc", "abcx", 1}, {"intention", "execution", 5}, {"saturday", "sunday", 3}, {"a", "A", 1}, {"a", " a ", 2},
		{"\x00", "", 1}, {"\x00", "\x00\x00", 1}, {"a\x00b", "ab", 1}, {"\x00", "\xff", 1}, {"\x00\xff", "\xff\x00", 2}, {"\x7f", "\xff", 1},
		{"é", "è", 1}, {"é", "e", 2}, {"日本", "日木", 1}, {"日本", "日", 3}, {"\xff", "\ufffd", 3}, {"\xff\xfe", "\xff\xfd", 1},
	} {
		if got, back := Dist(c.a, c.b), Dist(c.b, c.a); got != c.want || back != c.want {
			t.Errorf("%q and %q: %d, the other way %d, want %d", c.a, c.b, got, back, c.want)
		}
	}
}

// By what an edit is: it takes one byte away, puts one anywhere, or makes one another one.
func TestP81DistIsTheLeastNumberOfEdits(t *testing.T) {
	for _, c := range []struct {
		of   string
		most int
	}{{"ab", 5}, {"abc", 3}, {"\x00\xff", 4}} {
		all := short(c.of, c.most)
		for _, a := range all {
			// A way may be by texts that are longer than both.
			seen := reached(a, c.of, c.most+1)
			for _, b := range all {
				if got := Dist(a, b); got != seen[b] {
					t.Errorf("%q and %q: %d, want %d", a, b, got, seen[b])
				}
				if got := apart(a, b); got != seen[b] {
					t.Fatalf("the test's own table: %q and %q: %d, want %d", a, b, got, seen[b])
				}
			}
		}
	}
}

func TestP81DistOfEach(t *testing.T) {
	for _, a := range texts() {
		for _, b := range texts() {
			if got, want := Dist(a, b), apart(a, b); got != want {
				t.Errorf("%q and %q: %d, want %d", a, b, got, want)
			}
		}
	}
}

func TestP81DistOfLongerOnes(t *testing.T) {
	for _, c := range twos() {
		want := apart(c[0], c[1])
		if got, back := Dist(c[0], c[1]), Dist(c[1], c[0]); got != want || back != want {
			t.Errorf("%q and %q: %d, the other way %d, want %d", c[0], c[1], got, back, want)
		}
	}
	for few := 1; few <= 26; few += 5 {
		a, b := drawn(1000, few, 1), drawn(1500, few, 2)
		if got, want := Dist(a, b), apart(a, b); got != want {
			t.Errorf("of %d letters: %d, want %d", few, got, want)
		}
	}
}

// Each of two bytes may be any.
func TestP81DistOfEachByte(t *testing.T) {
	for x := range 256 {
		for y := range 256 {
			a, b := "ab"+string([]byte{byte(x)})+"c", "\x01b"+string([]byte{byte(y)})+"d"
			want := 3
			if x == y {
				want = 2
			}
			// What comes first may be what comes last of the other one.
			want = min(want, apart(a, b))
			if got := Dist(a, b); got != want {
				t.Errorf("%q and %q: %d, want %d", a, b, got, want)
			}
		}
	}
}

// As many bytes as a thing has at most, and more of them, which are no thing any more.
func TestP81DistOfManyBytes(t *testing.T) {
	for _, n := range []int{100, api.MaxSize - 1, api.MaxSize, api.MaxSize + 1} {
		same := strings.Repeat("a", n)
		inner := "x" + same[2:] + "y"
		turned := strings.Repeat("ab", n/2)
		for _, c := range []struct {
			what, a, b string
			want       int
		}{
			{"all", same, strings.Repeat("b", n), n}, {"none", same, strings.Repeat("a", n), 0}, {"each second one", strings.Repeat("ab", n/2), strings.Repeat("a", n/2*2), n / 2},
			{"the first one", same, "b" + same[1:], 1}, {"the last one", same, same[1:] + "b", 1}, {"one less", same, same[1:], 1}, {"one in front", same, "b" + same, 1},
			{"first and last", inner, "y" + inner[1:n-1] + "x", 2}, {"first goes behind", turned, turned[1:] + "a", 2}, {"nothing", same, "", n}, {"one", same, "b", n}, {"one that stays", same, "a", n - 1},
		} {
			if got := Dist(c.a, c.b); got != c.want {
				t.Errorf("%s of %d: %d, want %d", c.what, n, got, c.want)
			}
		}
	}
}

// checkUpto asks for what is d apart with less, as much and more to be had.
func checkUpto(t *testing.T, a, b string, d int) {
	t.Helper()
	for _, most := range []int{math.MinInt, math.MinInt + 1, -d - 1, -d, -2, -1, 0, 1, 2, d / 2, d - 2, d - 1, d, d + 1, d + 2, 2 * d, math.MaxInt32, math.MaxUint32, api.MaxDist, math.MaxInt - 1, math.MaxInt} {
		want := 0
		if d <= most {
			want = d
		}
		if got, ok := Upto(a, b, most); got != want || ok != (d <= most) {
			t.Errorf("%q and %q, of %d up to %d: %d, %t", a, b, d, most, got, ok)
		}
	}
}

func TestP81Upto(t *testing.T) {
	for _, c := range []struct {
		a, b string
		most int
		want int
		ok   bool
	}{
		{"kitten", "sitting", 3, 3, true}, {"kitten", "sitting", 4, 3, true}, {"kitten", "sitting", 2, 0, false}, {"kitten", "sitting", 0, 0, false}, {"kitten", "sitting", -3, 0, false}, {"kitten", "sitting", math.MinInt, 0, false}, {"kitten", "sitting", math.MaxInt, 3, true},
		{"", "", 0, 0, true}, {"", "", 1, 0, true}, {"", "", -1, 0, false}, {"", "", math.MinInt, 0, false}, {"", "", math.MaxInt, 0, true},
		{"abc", "abc", 0, 0, true}, {"abc", "abc", -1, 0, false}, {"abc", "abd", 0, 0, false}, {"abc", "abd", 1, 1, true}, {"ab", "ba", 1, 0, false}, {"ab", "ba", 0, 0, false}, {"ab", "ba", 2, 2, true},
		{"", "abc", 3, 3, true}, {"", "abc", 2, 0, false}, {"", "abc", 0, 0, false}, {"\x00", "\xff", 0, 0, false}, {"é", "è", 1, 1, true}, {"é", "è", 0, 0, false},
	} {
		if got, ok := Upto(c.a, c.b, c.most); got != c.want || ok != c.ok {
			t.Errorf("%q and %q up to %d: %d, %t", c.a, c.b, c.most, got, ok)
		}
		if got, ok := Upto(c.b, c.a, c.most); got != c.want || ok != c.ok {
			t.Errorf("%q and %q up to %d: %d, %t", c.b, c.a, c.most, got, ok)
		}
	}
}

func TestP81UptoOfEach(t *testing.T) {
	for _, a := range texts() {
		for _, b := range texts() {
			checkUpto(t, a, b, apart(a, b))
		}
	}
	for _, c := range twos() {
		checkUpto(t, c[0], c[1], apart(c[0], c[1]))
	}
	checkUpto(t, strings.Repeat("ab", 1000), strings.Repeat("ba", 1000), 2)
}

func TestP82Least(t *testing.T) {
	for _, c := range []struct {
		a, b string
		want int
	}{
		{"aab", "abbb", 2}, {"abc", "xyzw", 4}, {"", "", 0}, {"", "abc", 3}, {"abc", "abc", 0}, {"abc", "cba", 0}, {"ab", "ba", 0}, {"abc", "ab", 1}, {"abc", "cb", 1}, {"aaa", "aaaaa", 2}, {"aaa", "bbbbb", 5}, {"aab", "abb", 1},
		{"kitten", "sitting", 3}, {"flaw", "lawn", 1}, {"ab", "cd", 2}, {"abcd", "e", 4}, {"\x00", "\xff", 1}, {"\x00\x00", "\x00", 1}, {"é", "è", 1}, {"\x80", "\x00", 1},
	} {
		if got, back := Least(c.a, c.b), Least(c.b, c.a); got != c.want || back != c.want {
			t.Errorf("%q and %q: %d, the other way %d, want %d", c.a, c.b, got, back, c.want)
		}
	}
}

func TestP82LeastOfEach(t *testing.T) {
	check := func(a, b string) {
		t.Helper()
		want := max(len(a)-len(b), len(b)-len(a), lacks(a, b), lacks(b, a))
		if got := Least(a, b); got != want {
			t.Errorf("%q and %q: %d, want %d", a, b, got, want)
		}
		if d := Dist(a, b); d < want {
			t.Errorf("%q and %q: Dist %d is less than %d", a, b, d, want)
		}
	}
	for _, a := range texts() {
		for _, b := range texts() {
			check(a, b)
		}
	}
	for _, c := range twos() {
		check(c[0], c[1])
	}
	all := make([]byte, 256)
	for v := range all {
		all[v] = byte(v)
	}
	check(string(all), strings.Repeat(string(all), 3))
	check(string(all), "")
	for n := range all {
		check(string(all[:n]), string(all[n:]))
		check(string(all[n/2:]), string(all[:n]))
	}
}

func TestP82Trim(t *testing.T) {
	for _, c := range []struct{ a, b, x, y string }{
		{"xabcx", "xaccx", "b", "c"}, {"", "", "", ""}, {"", "abc", "", "abc"}, {"abc", "abc", "", ""}, {"abc", "abd", "c", "d"}, {"abc", "xbc", "a", "x"}, {"abc", "xyz", "abc", "xyz"}, {"ab", "ba", "ab", "ba"},
		// First what they begin with, then what is left of what they end with.
		{"aa", "a", "a", ""}, {"aba", "a", "ba", ""}, {"abab", "ab", "ab", ""}, {"aaaa", "aa", "aa", ""}, {"abcab", "abab", "c", ""}, {"aXa", "aXaXa", "", "Xa"}, {"ab", "aab", "", "a"}, {"abb", "ab", "b", ""},
		{"kitten", "sitting", "kitten", "sitting"}, {"flaw", "lawn", "flaw", "lawn"}, {"\x00a\x00", "\x00b\x00", "a", "b"}, {"é", "è", "\xa9", "\xa8"}, {"日本", "木本", "\x97\xa5", "\x9c\xa8"}, {"\xff\x00", "\xff", "\x00", ""},
	} {
		if x, y := Trim(c.a, c.b); x != c.x || y != c.y {
			t.Errorf("%q and %q: %q and %q, want %q and %q", c.a, c.b, x, y, c.x, c.y)
		}
		if y, x := Trim(c.b, c.a); x != c.x || y != c.y {
			t.Errorf("%q and %q: %q and %q, want %q and %q", c.b, c.a, y, x, c.y, c.x)
		}
	}
}

func TestP82TrimOfEach(t *testing.T) {
	check := func(a, b string) {
		t.Helper()
		n := 0
		for n < min(len(a), len(b)) && a[:n+1] == b[:n+1] {
			n++
		}
		wantX, wantY := a[n:], b[n:]
		m := 0
		for m < min(len(wantX), len(wantY)) && strings.HasSuffix(wantX, wantY[len(wantY)-m-1:]) {
			m++
		}
		wantX, wantY = wantX[:len(wantX)-m], wantY[:len(wantY)-m]
		x, y := Trim(a, b)
		if x != wantX || y != wantY {
			t.Errorf("%q and %q: %q and %q, want %q and %q", a, b, x, y, wantX, wantY)
		}
		if Dist(x, y) != apart(a, b) {
			t.Errorf("%q and %q: Dist is %d, and behind Trim %d", a, b, apart(a, b), Dist(x, y))
		}
	}
	for _, a := range texts() {
		for _, b := range texts() {
			check(a, b)
		}
	}
	for _, c := range twos() {
		check(c[0], c[1])
	}
	long := strings.Repeat("a", api.MaxSize)
	if x, y := Trim(long, long); x != "" || y != "" {
		t.Errorf("of the same ones %d and %d bytes", len(x), len(y))
	}
	if x, y := Trim(long+"b"+long, long+"c"+long); x != "b" || y != "c" {
		t.Errorf("of b and c in the middle %d and %d bytes", len(x), len(y))
	}
}

func TestP83Edits(t *testing.T) {
	for _, c := range []struct{ a, b, want string }{
		{"ab", "b", "-="}, {"kitten", "sitting", "!===!=+"}, {"flaw", "lawn", "-===+"}, {"", "", ""}, {"", "abc", "+++"}, {"abc", "", "---"}, {"abc", "abc", "==="}, {"abc", "abd", "==!"}, {"abc", "xbc", "!=="}, {"b", "ab", "+="},
		// Of several the first, letter by letter, in the order = ! - +.
		{"aa", "a", "=-"}, {"a", "aa", "=+"}, {"aab", "ab", "=-="}, {"ab", "aab", "=+="}, {"ab", "ba", "!!"}, {"ab", "c", "!-"}, {"c", "ab", "!+"}, {"abc", "cd", "!!-"}, {"cd", "abc", "!!+"}, {"xaa", "ya", "!=-"}, {"ya", "xaa", "!=+"},
		{"abab", "baba", "-===+"}, {"baba", "abab", "-===+"}, {"abcd", "badc", "-=!=+"}, {"abc", "bca", "-==+"}, {"cab", "abc", "-==+"}, {"acb", "bca", "!=!"},
		{"\x00\xff", "\xff", "-="}, {"é", "è", "=!"}, {"日本", "日木", "=====!"}, {"é", "e", "!-"}, {"=!-+", "!-+", "-==="},
	} {
		if got := Edits(c.a, c.b); got != c.want {
			t.Errorf("%q and %q: %q, want %q", c.a, c.b, got, c.want)
		}
	}
}

// By looking at all ways there are.
func TestP83EditsIsAheadOfAllWays(t *testing.T) {
	check := func(a, b string) {
		t.Helper()
		all := ways(a, b)
		want := all[0]
		for _, w := range all {
			if ahead(w, want) {
				want = w
			}
		}
		if got := Edits(a, b); got != want {
			t.Errorf("%q and %q: %q, want %q", a, b, got, want)
		}
		if got := best(a, b); got != want {
			t.Fatalf("the test's own table: %q and %q: %q, want %q", a, b, got, want)
		}
	}
	for _, a := range short("ab", 4) {
		for _, b := range short("ab", 4) {
			check(a, b)
		}
	}
	for _, a := range short("abc", 3) {
		for _, b := range short("abc", 3) {
			check(a, b)
		}
	}
}

func TestP83EditsOfEach(t *testing.T) {
	check := func(a, b string) {
		t.Helper()
		got := Edits(a, b)
		if want := best(a, b); got != want {
			t.Errorf("%q and %q: %q, want %q", a, b, got, want)
		}
		if d := Dist(a, b); edits(got) != d {
			t.Errorf("%q and %q: %q has %d edits, Dist is %d", a, b, got, edits(got), d)
		}
		if s, ok := Apply(a, b, got); s != b || !ok {
			t.Errorf("%q and %q, by %q: %q, %t", a, b, got, s, ok)
		}
	}
	for _, a := range texts() {
		for _, b := range texts() {
			check(a, b)
		}
	}
	for _, c := range twos() {
		check(c[0], c[1])
		check(c[1], c[0])
	}
	check(drawn(400, 2, 5), drawn(390, 2, 6))
	check(drawn(300, 4, 7), drawn(420, 4, 8))
}

func TestP83EditsOfManyBytes(t *testing.T) {
	for _, n := range []int{1000, api.MaxSize} {
		same := strings.Repeat("a", n)
		for _, c := range []struct{ what, a, b, want string }{
			{"the same", same, same, strings.Repeat("=", n)}, {"nothing", same, "", strings.Repeat("-", n)}, {"of nothing", "", same, strings.Repeat("+", n)},
			{"the last", same + "b", same + "c", strings.Repeat("=", n) + "!"}, {"one goes", "b" + same, same, "-" + strings.Repeat("=", n)}, {"one comes", same, "b" + same, "+" + strings.Repeat("=", n)},
			{"first goes behind", strings.Repeat("ab", n/2), strings.Repeat("ba", n/2), "-" + strings.Repeat("=", n-1) + "+"}, {"all", same, strings.Repeat("b", n), strings.Repeat("!", n)},
			{"one that stays", same, "a", "=" + strings.Repeat("-", n-1)}, {"one that becomes", "b", same, "!" + strings.Repeat("+", n-1)}, {"less of the same", same, same[n/2:], strings.Repeat("=", n/2) + strings.Repeat("-", n/2)},
		} {
			got := Edits(c.a, c.b)
			if got != c.want {
				t.Errorf("%s of %d: %d letters, %d edits", c.what, n, len(got), edits(got))
			}
			if s, ok := Apply(c.a, c.b, got); s != c.b || !ok {
				t.Errorf("%s of %d: %d bytes, %t", c.what, n, len(s), ok)
			}
		}
	}
}

func TestP83Apply(t *testing.T) {
	for _, c := range []struct {
		a, b, e string
		ok      bool
	}{
		{"kitten", "sitting", "!===!=+", true}, {"ab", "b", "-=", true}, {"", "", "", true}, {"", "abc", "+++", true}, {"abc", "", "---", true}, {"abc", "abc", "===", true},
		// Ways by more edits than there need be, too.
		{"ab", "b", "!-", true}, {"abc", "abc", "---+++", true}, {"abc", "abc", "+++---", true}, {"a", "a", "-+", true}, {"a", "a", "+-", true}, {"a", "b", "-+", true}, {"ab", "ba", "!!", true}, {"ab", "ba", "-=+", true}, {"ab", "ba", "+=-", true},
		// = at others, ! at the same.
		{"a", "a", "!", false}, {"a", "b", "=", false}, {"ab", "b", "=-", false}, {"ab", "ac", "!!", false}, {"abc", "abd", "===", false}, {"\x00", "\x00", "!", false}, {"\x00", "\xff", "=", false},
		// Something is left of a, of b, or of both.
		{"a", "", "", false}, {"", "a", "", false}, {"a", "a", "", false}, {"abc", "abc", "==", false}, {"abc", "ab", "==", false}, {"ab", "abc", "==", false}, {"abc", "abd", "==-", false}, {"abc", "abd", "==+", false},
		// Nothing is left of a, or of b, where a letter asks for it.
		{"", "", "=", false}, {"", "", "!", false}, {"", "", "-", false}, {"", "", "+", false}, {"a", "a", "==", false}, {"a", "a", "=!", false}, {"a", "a", "=-", false}, {"a", "a", "=+", false}, {"ab", "a", "=!", false}, {"ab", "a", "==", false}, {"a", "ab", "=!", false}, {"a", "ab", "=-", false}, {"ab", "a", "=+", false},
		// Other letters.
		{"a", "a", "x", false}, {"a", "a", "=x", false}, {"a", "a", "x=", false}, {"", "", " ", false}, {"", "", "\x00", false}, {"a", "a", "= ", false}, {"a", "a", "\uff1d", false}, {"a", "a", "\xbd", false}, {"a", "a", "=\n", false}, {"ab", "a", "=_", false}, {"a", "ab", "=*", false},
	} {
		want := ""
		if c.ok {
			want = c.b
		}
		if got, ok := Apply(c.a, c.b, c.e); got != want || ok != c.ok {
			t.Errorf("%q and %q by %q: %q, %t", c.a, c.b, c.e, got, ok)
		}
	}
}

// Each byte may stand where a letter must.
func TestP83ApplyOfEachLetter(t *testing.T) {
	for v := range 256 {
		e := string([]byte{byte(v)})
		for _, c := range []struct{ a, b, letter string }{{"a", "a", "="}, {"a", "b", "!"}, {"a", "", "-"}, {"", "b", "+"}} {
			want := ""
			if e == c.letter {
				want = c.b
			}
			if got, ok := Apply(c.a, c.b, e); got != want || ok != (e == c.letter) {
				t.Errorf("%q and %q by %q: %q, %t", c.a, c.b, e, got, ok)
			}
		}
	}
}

// Just the ways that there are lead from a to b.
func TestP83ApplyOfEachWay(t *testing.T) {
	all := short(letters+"x", 5)
	for _, a := range short("ab", 2) {
		for _, b := range short("ab", 3) {
			right := map[string]int{}
			for _, w := range ways(a, b) {
				right[w] = 1
			}
			for _, e := range all {
				want := ""
				if right[e] == 1 {
					want = b
				}
				if got, ok := Apply(a, b, e); got != want || ok != (right[e] == 1) {
					t.Errorf("%q and %q by %q: %q, %t", a, b, e, got, ok)
				}
			}
		}
	}
}

func TestP84NoneJustOfTheSame(t *testing.T) {
	for _, a := range texts() {
		for _, b := range texts() {
			if got := Dist(a, b); (got == 0) != (a == b) || got < 0 {
				t.Errorf("%q and %q: %d", a, b, got)
			}
			if got, ok := Upto(a, b, 0); got != 0 || ok != (a == b) {
				t.Errorf("%q and %q up to 0: %d, %t", a, b, got, ok)
			}
		}
		// The same bytes, elsewhere in memory.
		if other := string([]byte(a)); Dist(a, other) != 0 || edits(Edits(a, other)) != 0 {
			t.Errorf("%q and itself: %d, %q", a, Dist(a, other), Edits(a, other))
		}
	}
}

func TestP84TheSameBothWays(t *testing.T) {
	check := func(a, b string) {
		t.Helper()
		if Dist(a, b) != Dist(b, a) || Least(a, b) != Least(b, a) || edits(Edits(a, b)) != edits(Edits(b, a)) {
			t.Errorf("%q and %q: %d, %d, the other way %d, %d", a, b, Dist(a, b), Least(a, b), Dist(b, a), Least(b, a))
		}
	}
	for _, a := range texts() {
		for _, b := range texts() {
			check(a, b)
		}
	}
	for _, c := range twos() {
		check(c[0], c[1])
	}
}

func TestP84NoLessByAThird(t *testing.T) {
	check := func(a, b, c string) {
		t.Helper()
		if Dist(a, c)+Dist(c, b) < Dist(a, b) {
			t.Errorf("%q and %q: %d, by %q %d and %d", a, b, Dist(a, b), c, Dist(a, c), Dist(c, b))
		}
	}
	for _, a := range texts() {
		for _, b := range texts() {
			for _, c := range texts() {
				check(a, b, c)
			}
		}
	}
	all := twos()
	for i := range all {
		check(all[i][0], all[i][1], all[(i+1)%len(all)][0])
		check(all[i][0], all[(i+7)%len(all)][1], all[(i+3)%len(all)][1])
	}
}

func TestP84AtMostWhatTheLongerOneHas(t *testing.T) {
	check := func(a, b string) {
		t.Helper()
		if d := Dist(a, b); d > max(len(a), len(b)) {
			t.Errorf("%q and %q: %d", a, b, d)
		}
	}
	for _, a := range texts() {
		for _, b := range texts() {
			check(a, b)
		}
	}
	for _, c := range twos() {
		check(c[0], c[1])
	}
	if a, b := strings.Repeat("a", 200), strings.Repeat("b", 300); Dist(a, b) != 300 {
		t.Errorf("of 200 and 300 others: %d", Dist(a, b))
	}
}

// No row can grow into the one behind it.
func TestRowsHaveNoRoomBehindThem(t *testing.T) {
	rows := cut(3, 4)
	for _, row := range rows {
		if len(row) != 4 || cap(row) != 4 {
			t.Errorf("%d, with room for %d", len(row), cap(row))
		}
	}
	rows[0] = append(rows[0], 9)
	if rows[1][0] != 0 {
		t.Error(rows)
	}
}
