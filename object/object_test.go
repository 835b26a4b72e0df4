package object

import (
	"bytes"
	"math"
	"slices"
	"strings"
	"testing"

	"waywiser/api"
	"waywiser/code"
)

const (
	least    = math.MinInt32
	greatest = math.MaxInt32
)

func vec(l ...int32) api.Object {
	return api.Object{Tag: api.TagVec, Vec: l}
}

func str(s string) api.Object {
	return api.Object{Tag: api.TagStr, Str: s}
}

// long is a vector of n numbers, of which the last one is another.
func long(n int, last int32) api.Object {
	l := make([]int32, n)
	l[n-1] = last
	return vec(l...)
}

// rising are objects, each ahead of the next one: things, and what is none.
func rising() []api.Object {
	return []api.Object{
		{Tag: math.MinInt},
		{Tag: -1, Vec: []int32{1}, Str: "z"},
		{},
		{Str: "a"},
		{Str: "b"},
		{Vec: []int32{1}},
		vec(),
		{Tag: api.TagVec, Str: "a"},
		vec(least),
		vec(least + 1),
		vec(-1),
		vec(0),
		vec(1),
		{Tag: api.TagVec, Vec: []int32{1}, Str: "\x00"},
		{Tag: api.TagVec, Vec: []int32{1}, Str: "a"},
		vec(2),
		vec(greatest),
		vec(least, greatest),
		vec(-2, 5),
		vec(-1, 4),
		vec(-1, 5),
		vec(0, -7),
		vec(0, 0),
		vec(3, -4),
		vec(least, least, least),
		long(api.MaxSize, 0),
		long(api.MaxSize, 1),
		long(api.MaxSize+1, 0),
		str(""),
		str("\x00"),
		str("\x00\x00"),
		str("\x00a"),
		str("A"),
		str("B"),
		str("Z"),
		str("a"),
		str("a\x00"),
		str("ab"),
		str("abc"),
		str("b"),
		str("ba"),
		str("\x7f"),
		str("\x80"),
		str("ö"),
		str("\xff"),
		str("\xff\xff"),
		{Tag: api.TagStr, Vec: []int32{0}},
		{Tag: api.TagStr, Vec: []int32{0}, Str: "a"},
		{Tag: api.TagStr, Vec: []int32{1}},
		{Tag: 3},
		{Tag: 3, Str: "a"},
		{Tag: math.MaxInt},
	}
}

// put answers the bytes that objects are put as, one behind the other.
func put(l ...api.Object) []byte {
	w := code.NewWriter()
	for _, x := range l {
		Put(w, x)
	}
	return w.Bytes()
}

// written answers what a writer has of what it was made to write.
func written(write func(w *code.Writer)) []byte {
	w := code.NewWriter()
	write(w)
	return w.Bytes()
}

// zero tells whether nothing of an object is set.
func zero(x api.Object) bool {
	return x.Tag == 0 && len(x.Vec) == 0 && x.Str == ""
}

// alike tells by the fields alone whether two objects are the same.
func alike(x, y api.Object) bool {
	if x.Tag != y.Tag || len(x.Vec) != len(y.Vec) || x.Str != y.Str {
		return false
	}
	for i, n := range x.Vec {
		if y.Vec[i] != n {
			return false
		}
	}
	return true
}

// thing tells by the document's words whether an object is a thing.
func thing(x api.Object) bool {
	return x.Tag == api.TagVec && x.Str == "" || x.Tag == api.TagStr && len(x.Vec) == 0
}

func TestP51Right(t *testing.T) {
	for _, c := range []struct {
		x            api.Object
		metric, size int
		want         bool
	}{
		{vec(3, -4), api.L1, 2, true}, {vec(3, -4), api.L1, 3, false}, {vec(3, -4), api.L1, 1, false}, {vec(3, -4), api.L1, 0, false},
		{vec(), api.L1, 0, true}, {vec(), api.L1, 1, false}, {api.Object{Tag: api.TagVec, Vec: []int32{}}, api.L1, 0, true}, {vec(least, greatest), api.L1, 2, true},
		{str("abc"), api.Ham, 3, true}, {str("abc"), api.Ham, 4, false}, {str("abc"), api.Ham, 2, false}, {str(""), api.Ham, 0, true}, {str(""), api.Ham, 1, false},
		{str("abc"), api.Lev, 3, true}, {str("abc"), api.Lev, 4, true}, {str("abc"), api.Lev, 2, false}, {str(""), api.Lev, 0, true}, {str(""), api.Lev, 1, true}, {str("a"), api.Lev, 0, false},
		{str("ö"), api.Ham, 2, true}, {str("ö"), api.Ham, 1, false}, {str("\xff\x00"), api.Ham, 2, true}, {str("ö"), api.Lev, 1, false}, {str("ö"), api.Lev, 2, true},
		{api.Object{Tag: api.TagStr, Vec: []int32{}, Str: "abc"}, api.Ham, 3, true},
	} {
		if got := Right(c.x, c.metric, c.size); got != c.want {
			t.Errorf("%v of %d and %d: %t", c.x, c.metric, c.size, got)
		}
	}
}

func TestP51RightOfTheGreatestSize(t *testing.T) {
	const most = api.MaxSize
	bytesOf := func(n int) api.Object { return str(strings.Repeat("x", n)) }
	for _, c := range []struct {
		what         string
		x            api.Object
		metric, size int
		want         bool
	}{
		{"numbers", long(most, 7), api.L1, most, true}, {"one more", long(most+1, 7), api.L1, most, false}, {"one more of its size", long(most+1, 7), api.L1, most + 1, false}, {"one less", long(most-1, 7), api.L1, most, false},
		{"bytes", bytesOf(most), api.Ham, most, true}, {"one more", bytesOf(most + 1), api.Ham, most, false}, {"one more of its size", bytesOf(most + 1), api.Ham, most + 1, false}, {"one less", bytesOf(most - 1), api.Ham, most, false},
		{"text", bytesOf(most), api.Lev, most, true}, {"one more", bytesOf(most + 1), api.Lev, most, false}, {"one more of its size", bytesOf(most + 1), api.Lev, most + 1, false}, {"one less", bytesOf(most - 1), api.Lev, most, true},
	} {
		if got := Right(c.x, c.metric, c.size); got != c.want {
			t.Errorf("%s of %d and %d: %t", c.what, c.metric, c.size, got)
		}
	}
}

// What is no thing, a thing of another tag, another metric, a size that may not be: none is right.
func TestP51RightOfNone(t *testing.T) {
	metrics := []int{math.MinInt, -1, 0, api.L1, api.Ham, api.Lev, 4, math.MaxInt}
	sizes := []int{math.MinInt, -2, -1, 0, 1, 2, 3, api.MaxSize - 1, api.MaxSize, api.MaxSize + 1, math.MaxInt}
	for i, x := range rising() {
		for _, metric := range metrics {
			for _, size := range sizes {
				want := thing(x) && 0 <= size && size <= 65536
				switch metric {
				case 1:
					want = want && x.Tag == 1 && len(x.Vec) == size
				case 2:
					want = want && x.Tag == 2 && len(x.Str) == size
				case 3:
					want = want && x.Tag == 2 && len(x.Str) <= size
				default:
					want = false
				}
				if got := Right(x, metric, size); got != want {
					t.Errorf("object %d of %d and %d: %t", i, metric, size, got)
				}
			}
		}
	}
}

func TestP51Tag(t *testing.T) {
	for metric, want := range map[int]int{
		api.L1: api.TagVec, api.Ham: api.TagStr, api.Lev: api.TagStr,
		0: 0, -1: 0, 4: 0, 5: 0, math.MinInt: 0, math.MaxInt: 0,
	} {
		if got := Tag(metric); got != want {
			t.Errorf("of %d: %d, want %d", metric, got, want)
		}
	}
}

func TestP52Same(t *testing.T) {
	for i, x := range rising() {
		for k, y := range rising() {
			if got := Same(x, y); got != (i == k) {
				t.Errorf("objects %d and %d: %t", i, k, got)
			}
		}
	}
	none, empty := api.Object{Tag: api.TagVec}, api.Object{Tag: api.TagVec, Vec: []int32{}}
	if !Same(none, empty) || !Same(empty, none) || Cmp(none, empty) != 0 || Cmp(empty, none) != 0 {
		t.Error("no numbers aren't alike")
	}
	room := vec(make([]int32, 2, 9)...)
	if !Same(room, vec(0, 0)) || Cmp(room, vec(0, 0)) != 0 {
		t.Error("room behind the numbers is told")
	}
}

func TestP52Cmp(t *testing.T) {
	l := rising()
	for i, x := range l {
		for k, y := range l {
			want := 0
			if i < k {
				want = -1
			} else if i > k {
				want = 1
			}
			if got := Cmp(x, y); got != want {
				t.Errorf("objects %d and %d: %d, want %d", i, k, got, want)
			}
		}
	}
	// What comes first decides, whatever comes behind it.
	for _, c := range [][2]api.Object{
		{{Tag: 1, Vec: []int32{9, 9, 9}, Str: "z"}, {Tag: 2}},
		{{Tag: 1, Vec: []int32{9}, Str: "z"}, {Tag: 1, Vec: []int32{1, 1}, Str: "a"}},
		{{Tag: 1, Vec: []int32{1, 9}, Str: "z"}, {Tag: 1, Vec: []int32{2, 1}, Str: "a"}},
		{{Tag: 1, Vec: []int32{1, 1}, Str: "z"}, {Tag: 1, Vec: []int32{1, 2}, Str: "a"}},
		{{Tag: 1, Vec: []int32{1, 1}, Str: "azz"}, {Tag: 1, Vec: []int32{1, 1}, Str: "b"}},
	} {
		if Cmp(c[0], c[1]) != -1 || Cmp(c[1], c[0]) != 1 {
			t.Error(c)
		}
	}
}

func TestP52Clone(t *testing.T) {
	for i, x := range rising() {
		y := Clone(x)
		if !alike(x, y) || !alike(x, rising()[i]) {
			t.Errorf("object %d is another one", i)
		}
		if len(x.Vec) == 0 {
			continue
		}
		y.Vec[0]++
		if !alike(x, rising()[i]) {
			t.Errorf("object %d changes with what it was copied to", i)
		}
		y = Clone(x)
		x.Vec[0]++
		if !alike(y, rising()[i]) {
			t.Errorf("what object %d was copied to changes with it", i)
		}
	}
}

// Appending to one leaves the other one's room alone.
func TestP52CloneHasItsOwnRoom(t *testing.T) {
	whole := []int32{1, 2, 3, 4}
	for n := range 5 {
		y := Clone(vec(whole[:n]...))
		y.Vec = append(y.Vec, 9, 9, 9, 9)
		if !slices.Equal(whole, []int32{1, 2, 3, 4}) {
			t.Fatal(n, whole)
		}
	}
}

func TestP53Put(t *testing.T) {
	for _, c := range []struct {
		x    api.Object
		want []byte
	}{
		{vec(), []byte{2, 0}}, {vec(3, -4), []byte{2, 2, 6, 7}}, {vec(0), []byte{2, 1, 0}}, {vec(150), []byte{2, 1, 172, 2}},
		{vec(greatest, least), []byte{2, 2, 254, 255, 255, 255, 15, 255, 255, 255, 255, 15}},
		{str(""), []byte{4, 0}}, {str("ab"), []byte{4, 2, 'a', 'b'}}, {str("\xff\x00"), []byte{4, 2, 255, 0}}, {str("ö"), []byte{4, 2, 0xc3, 0xb6}},
		{api.Object{}, []byte{0}}, {api.Object{Tag: 3, Vec: []int32{1}, Str: "a"}, []byte{6}}, {api.Object{Tag: -1, Str: "a"}, []byte{1}}, {api.Object{Tag: 64}, []byte{128, 1}},
		{api.Object{Tag: api.TagVec, Vec: []int32{1}, Str: "a"}, []byte{2, 1, 2}}, {api.Object{Tag: api.TagStr, Vec: []int32{1}, Str: "a"}, []byte{4, 1, 'a'}},
	} {
		if got := put(c.x); !bytes.Equal(got, c.want) {
			t.Errorf("%v is put as %v, want %v", c.x, got, c.want)
		}
	}
}

func TestP53PutParts(t *testing.T) {
	for i, x := range rising() {
		want := written(func(w *code.Writer) {
			w.Int(x.Tag)
			if x.Tag == 1 {
				w.Num(uint64(len(x.Vec)))
				for _, n := range x.Vec {
					w.Int(int(n))
				}
			}
			if x.Tag == 2 {
				w.Text(x.Str)
			}
		})
		if got := put(x); !bytes.Equal(got, want) {
			t.Errorf("object %d is put as others", i)
		}
		if !alike(x, rising()[i]) {
			t.Errorf("object %d is changed", i)
		}
	}
}

// What is put stands behind what was written, and nothing stands behind it.
func TestP53PutBehind(t *testing.T) {
	w := code.NewWriter()
	w.Num(300)
	Put(w, vec(1))
	Put(w, str("a"))
	w.Num(5)
	if got := w.Bytes(); !bytes.Equal(got, []byte{172, 2, 2, 1, 2, 4, 1, 'a', 5}) {
		t.Error(got)
	}
}

func TestP53Get(t *testing.T) {
	for _, c := range []struct {
		b    []byte
		want api.Object
	}{
		{[]byte{2, 0}, vec()}, {[]byte{2, 2, 6, 7}, vec(3, -4)}, {[]byte{2, 1, 172, 2}, vec(150)},
		{[]byte{2, 2, 254, 255, 255, 255, 15, 255, 255, 255, 255, 15}, vec(greatest, least)},
		{[]byte{4, 0}, str("")}, {[]byte{4, 2, 'a', 'b'}, str("ab")}, {[]byte{4, 2, 255, 0}, str("\xff\x00")},
	} {
		for _, tail := range [][]byte{nil, {0}, {9, 128}, {128}, {2, 0}} {
			r := code.NewReader(append(slices.Clone(c.b), tail...))
			if got := Get(r); !alike(got, c.want) {
				t.Errorf("of %v: %v, want %v", c.b, got, c.want)
			}
			want := api.OK
			if len(tail) > 0 {
				want = api.ErrForm
			}
			if r.Left() != len(tail) || r.End() != want {
				t.Errorf("of %v, %v: left %d, end %d", c.b, tail, r.Left(), int(r.End()))
			}
		}
	}
}

// The greatest things are read; one number, or one byte, more isn't.
func TestP53GetOfTheGreatestSize(t *testing.T) {
	const most = api.MaxSize
	for _, x := range []api.Object{long(most, least), long(most-1, 1), str(strings.Repeat("x", most)), str(strings.Repeat("\xff", most-1))} {
		r := code.NewReader(put(x))
		if got := Get(r); !alike(got, x) || r.End() != api.OK {
			t.Error("a great one of tag", x.Tag, "isn't read:", int(r.End()))
		}
	}
	for _, x := range []api.Object{long(most+1, 1), long(2*most, 1), str(strings.Repeat("x", most+1)), str(strings.Repeat("x", 2*most))} {
		r := code.NewReader(put(x))
		if got := Get(r); !zero(got) || r.End() != api.ErrRange {
			t.Error("one too great of tag", x.Tag, "is read:", int(r.End()))
		}
	}
}

func TestP53GetOfWhatIsWrong(t *testing.T) {
	number := func(n int) []byte {
		return written(func(w *code.Writer) { w.Int(api.TagVec); w.Num(1); w.Int(n) })
	}
	for _, c := range []struct {
		b   []byte
		err api.Errno
	}{
		{nil, api.ErrShort}, {[]byte{128}, api.ErrShort}, {[]byte{130, 0}, api.ErrForm},
		{put(api.Object{}), api.ErrRange}, {put(api.Object{Tag: 3}), api.ErrRange}, {put(api.Object{Tag: -1}), api.ErrRange}, {put(api.Object{Tag: -2}), api.ErrRange}, {put(api.Object{Tag: math.MaxInt}), api.ErrRange}, {put(api.Object{Tag: math.MinInt}), api.ErrRange},
		{[]byte{0, 0}, api.ErrRange}, {[]byte{6, 1, 2}, api.ErrRange}, {[]byte{1, 1, 2}, api.ErrRange},
		{[]byte{2}, api.ErrShort}, {[]byte{2, 1}, api.ErrShort}, {[]byte{2, 2, 6}, api.ErrShort}, {[]byte{2, 2, 6, 128}, api.ErrShort}, {[]byte{2, 128, 128, 4}, api.ErrShort},
		{[]byte{2, 129, 0, 2}, api.ErrForm}, {[]byte{2, 1, 130, 0}, api.ErrForm}, {[]byte{2, 3, 2, 130, 0, 2}, api.ErrForm},
		{[]byte{2, 129, 128, 4}, api.ErrRange}, {[]byte{2, 255, 255, 255, 255, 255, 255, 255, 255, 255, 1}, api.ErrRange},
		{number(greatest + 1), api.ErrRange}, {number(least - 1), api.ErrRange}, {number(1 << 32), api.ErrRange}, {number(math.MaxInt), api.ErrRange}, {number(math.MinInt), api.ErrRange},
		{[]byte{4}, api.ErrShort}, {[]byte{4, 2, 'a'}, api.ErrShort}, {[]byte{4, 128, 128, 4, 'a'}, api.ErrShort},
		{[]byte{4, 129, 0, 'a'}, api.ErrForm}, {[]byte{4, 129, 128, 4, 'a'}, api.ErrRange}, {[]byte{4, 255, 255, 255, 255, 255, 255, 255, 255, 255, 1}, api.ErrRange},
	} {
		r := code.NewReader(c.b)
		for range 2 {
			if got := Get(r); !zero(got) || r.Left() != 0 || r.End() != c.err {
				t.Errorf("of %v: %v, left %d, end %d, want %d", c.b, got, r.Left(), int(r.End()), int(c.err))
			}
		}
	}
}

// What is broken ahead stays so, by the error that it had.
func TestP53GetOfABrokenReader(t *testing.T) {
	r := code.NewReader(append([]byte{9}, put(vec(1), str("a"))...))
	r.Num(8)
	if got := Get(r); !zero(got) || r.End() != api.ErrRange {
		t.Error(got, int(r.End()))
	}
}

// A thing behind one that is wrong isn't told, one ahead of it is.
func TestP53GetOneBehindTheOther(t *testing.T) {
	r := code.NewReader(put(vec(1, 2), str("ab"), api.Object{Tag: 3}, vec(5)))
	if x, y := Get(r), Get(r); !alike(x, vec(1, 2)) || !alike(y, str("ab")) {
		t.Error(x, y)
	}
	for range 2 {
		if x := Get(r); !zero(x) || r.End() != api.ErrRange {
			t.Error(x, int(r.End()))
		}
	}
}

func TestP53OfNil(t *testing.T) {
	for _, x := range rising() {
		Put(nil, x)
	}
	if got := Get(nil); !zero(got) {
		t.Error(got)
	}
}

// What is read shares no memory with the bytes, or with what is read behind it.
func TestP53GetIsNew(t *testing.T) {
	b := put(vec(1, 2), vec(3), str("ab"))
	r := code.NewReader(b)
	x, y, z := Get(r), Get(r), Get(r)
	clear(b)
	x.Vec = append(x.Vec, 9, 9, 9)
	clear(x.Vec)
	if !alike(y, vec(3)) || !alike(z, str("ab")) {
		t.Error(y, z)
	}
}

// The order is one: whatever three are taken, what is ahead of what is ahead is ahead; and just what is the same is neither ahead nor behind.
func TestP54TheOrderIsOne(t *testing.T) {
	var l []api.Object
	for _, x := range rising() {
		if len(x.Vec) < 100 {
			l = append(l, x, Clone(x))
		}
	}
	for _, x := range l {
		for _, y := range l {
			c := Cmp(x, y)
			if c != -Cmp(y, x) || (c == 0) != Same(x, y) || Same(x, y) != Same(y, x) {
				t.Errorf("%v and %v: %d, %d, %t", x, y, c, Cmp(y, x), Same(x, y))
			}
			for _, z := range l {
				if c <= 0 && Cmp(y, z) <= 0 && Cmp(x, z) != min(c, Cmp(y, z)) {
					t.Errorf("%v, %v, %v", x, y, z)
				}
			}
		}
	}
}

// There and back: all things that may be are read as what was put, and what is read is put as just these bytes.
func TestP54ThereAndBack(t *testing.T) {
	var l []api.Object
	for _, x := range rising() {
		if thing(x) && len(x.Vec) <= api.MaxSize {
			l = append(l, x)
		}
	}
	b := put(l...)
	r := code.NewReader(b)
	var back []api.Object
	for i, x := range l {
		y := Get(r)
		if !alike(x, y) {
			t.Errorf("thing %d is another one", i)
		}
		back = append(back, y)
	}
	if r.End() != api.OK || !bytes.Equal(put(back...), b) {
		t.Error("others come back:", int(r.End()))
	}
}

// Whatever bytes are read: what isn't refused is a thing, and is put as just the bytes that were read.
func TestP54BackAndThere(t *testing.T) {
	x := uint32(5)
	next := func(n int) int {
		x = x*1664525 + 1013904223
		return int(x>>16) % n
	}
	read := 0
	for range 20000 {
		b := []byte{byte(next(8)), byte(next(6))}
		for range next(9) {
			b = append(b, byte(next(256)>>next(8)))
		}
		r := code.NewReader(b)
		got := Get(r)
		if zero(got) {
			if r.Left() != 0 || r.End() == api.OK {
				t.Errorf("of %v: nothing, and no error", b)
			}
			continue
		}
		read++
		if !thing(got) || !bytes.Equal(put(got), b[:len(b)-r.Left()]) {
			t.Errorf("of %v: %v", b, got)
		}
	}
	if read < 1000 {
		t.Error("too few are things:", read)
	}
}
