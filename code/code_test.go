package code

import (
	"bytes"
	"encoding/binary"
	"math"
	"math/big"
	"strings"
	"testing"

	"waywiser/api"
)

// wide is bytes that each say that a byte follows, and add nothing.
func wide(n int) []byte {
	return bytes.Repeat([]byte{128}, n)
}

func joined(parts ...[]byte) []byte {
	return bytes.Join(parts, nil)
}

// numbers are 0, the ends of all that have as many bits, and mixed ones.
func numbers() []uint64 {
	l := []uint64{0, 300, 16383, 16384, 0x0123456789abcdef, math.MaxUint64, math.MaxUint64 - 1}
	for i := range 64 {
		l = append(l, 1<<i-1, 1<<i, 1<<i+1)
	}
	return l
}

// ints are the same below 0, too.
func ints() []int {
	l := []int{math.MinInt, math.MinInt + 1, math.MaxInt, math.MaxInt - 1, api.MaxDist, -api.MaxDist}
	for i := range 63 {
		l = append(l, 1<<i, 1<<i-1, -1<<i, -1<<i-1, -1<<i+1)
	}
	return l
}

func texts() []string {
	return []string{
		"", "a", "ab", "\x00", "\xff\xfe", "\x80\x80", "größer", "a\nb c",
		strings.Repeat("x", 127), strings.Repeat("y", 128), strings.Repeat("\xff", 129), strings.Repeat("z", 20000),
	}
}

// rows are bytes of all kinds: all of up to two, mixed ones, and many with bytes above 127.
func rows() [][]byte {
	l := [][]byte{nil}
	for a := range 256 {
		l = append(l, []byte{byte(a)})
		for b := range 256 {
			l = append(l, []byte{byte(a), byte(b)})
		}
	}
	for n := range 14 {
		for _, tail := range [][]byte{nil, {0}, {1}, {2}, {127}, {128, 0}, {128, 1}, {0, 0}, {1, 7}} {
			l = append(l, joined(wide(n), tail), joined(bytes.Repeat([]byte{255}, n), tail))
		}
	}
	x := uint32(77)
	for n := range 3000 {
		b := make([]byte, n%17)
		for i := range b {
			x = x*1664525 + 1013904223
			b[i] = byte(x >> 24)
			if n%3 > 0 && i%9 < 8 {
				b[i] |= 128
			}
		}
		l = append(l, b)
	}
	return l
}

// told answers by the document's words which number bytes begin with, how many of them it is, and what is wrong with it.
func told(b []byte) (uint64, int, api.Errno) {
	ten := b[:min(10, len(b))]
	last := -1
	for i, c := range ten {
		if c < 128 {
			last = i
			break
		}
	}
	switch {
	case last < 0 && len(ten) < 10:
		return 0, 0, api.ErrShort
	case last < 0:
		return 0, 0, api.ErrForm
	case last == 9 && ten[last] > 1:
		return 0, 0, api.ErrForm
	case ten[last] == 0 && last != 0:
		return 0, 0, api.ErrForm
	}
	sum := new(big.Int)
	for i := last; i >= 0; i-- {
		sum.Mul(sum, big.NewInt(128))
		sum.Add(sum, big.NewInt(int64(ten[i]%128)))
	}
	return sum.Uint64(), last + 1, api.OK
}

// toldInt answers by the document's words which int a number is.
func toldInt(n uint64) int {
	sum := new(big.Int).SetUint64(n)
	if n%2 == 0 {
		return int(sum.Div(sum, big.NewInt(2)).Int64())
	}
	sum.Add(sum, big.NewInt(1))
	sum.Div(sum, big.NewInt(2))
	return int(sum.Neg(sum).Int64())
}

// num answers the bytes that a number is.
func num(n uint64) []byte {
	return binary.AppendUvarint(nil, n)
}

// written answers what a writer has of what it was made to write.
func written(write func(w *Writer)) []byte {
	w := NewWriter()
	write(w)
	return w.Bytes()
}

// checkEnd asks where a reader stands.
func checkEnd(t *testing.T, what string, r *Reader, left int, end api.Errno) {
	t.Helper()
	if r.Left() != left || r.End() != end {
		t.Errorf("%s: left %d, end %d, want %d, %d", what, r.Left(), int(r.End()), left, int(end))
	}
}

// checkBroken asks that a reader keeps its error, whatever is read, and has nothing more.
func checkBroken(t *testing.T, what string, r *Reader, err api.Errno) {
	t.Helper()
	checkEnd(t, what, r, 0, err)
	for range 2 {
		if r.Num(math.MaxUint64) != 0 || r.Int(math.MinInt, math.MaxInt) != 0 || r.Int(5, 4) != 0 || r.Flag() || r.Text(math.MaxInt) != "" || r.Text(-1) != "" || r.Num(0) != 0 {
			t.Errorf("%s: something is read behind what is wrong", what)
		}
		checkEnd(t, what, r, 0, err)
	}
}

func TestP31NothingIsWritten(t *testing.T) {
	w := NewWriter()
	if w == nil || len(w.Bytes()) != 0 {
		t.Error("a new writer has written")
	}
}

func TestP31Num(t *testing.T) {
	for _, c := range []struct {
		n    uint64
		want []byte
	}{
		{0, []byte{0}}, {1, []byte{1}}, {127, []byte{127}}, {128, []byte{128, 1}}, {129, []byte{129, 1}}, {255, []byte{255, 1}}, {300, []byte{172, 2}},
		{16383, []byte{255, 127}}, {16384, []byte{128, 128, 1}}, {1 << 63, joined(wide(9), []byte{1})}, {1<<63 - 1, joined(bytes.Repeat([]byte{255}, 8), []byte{127})},
		{math.MaxUint64, joined(bytes.Repeat([]byte{255}, 9), []byte{1})},
	} {
		if got := written(func(w *Writer) { w.Num(c.n) }); !bytes.Equal(got, c.want) {
			t.Errorf("Num(%d) is %v, want %v", c.n, got, c.want)
		}
	}
	for _, n := range numbers() {
		if got := written(func(w *Writer) { w.Num(n) }); !bytes.Equal(got, num(n)) {
			t.Errorf("Num(%d) is %v, want %v", n, got, num(n))
		}
	}
}

func TestP31Int(t *testing.T) {
	for _, c := range []struct {
		n    int
		want uint64
	}{
		{0, 0}, {-1, 1}, {1, 2}, {-2, 3}, {2, 4}, {-64, 127}, {64, 128}, {-65, 129}, {150, 300},
		{api.MaxDist, 1 << 51}, {-api.MaxDist, 1<<51 - 1},
		{math.MaxInt, math.MaxUint64 - 1}, {math.MinInt, math.MaxUint64}, {math.MinInt + 1, math.MaxUint64 - 2},
	} {
		if got := written(func(w *Writer) { w.Int(c.n) }); !bytes.Equal(got, num(c.want)) {
			t.Errorf("Int(%d) is %v, want %v", c.n, got, num(c.want))
		}
	}
	for _, n := range ints() {
		if got := written(func(w *Writer) { w.Int(n) }); !bytes.Equal(got, binary.AppendVarint(nil, int64(n))) {
			t.Errorf("Int(%d) is %v", n, got)
		}
	}
}

func TestP31Flag(t *testing.T) {
	yes, no := written(func(w *Writer) { w.Flag(true) }), written(func(w *Writer) { w.Flag(false) })
	if !bytes.Equal(yes, []byte{1}) || !bytes.Equal(no, []byte{0}) {
		t.Error(yes, no)
	}
}

func TestP31Text(t *testing.T) {
	for _, s := range texts() {
		want := joined(num(uint64(len(s))), []byte(s))
		if got := written(func(w *Writer) { w.Text(s) }); !bytes.Equal(got, want) {
			t.Errorf("Text(%.20q) is %v, want %v", s, got, want)
		}
	}
	if got := written(func(w *Writer) { w.Text("") }); !bytes.Equal(got, []byte{0}) {
		t.Error("Text of nothing is", got)
	}
	if got := written(func(w *Writer) { w.Text("ö") }); !bytes.Equal(got, []byte{2, 0xc3, 0xb6}) {
		t.Error("Text counts others than bytes:", got)
	}
}

func TestP31OneBehindTheOther(t *testing.T) {
	w := NewWriter()
	var want []byte
	for _, c := range []struct {
		write func()
		is    []byte
	}{
		{func() { w.Num(300) }, []byte{172, 2}}, {func() { w.Int(-1) }, []byte{1}}, {func() { w.Text("ab") }, []byte{2, 'a', 'b'}},
		{func() { w.Flag(false) }, []byte{0}}, {func() { w.Num(0) }, []byte{0}}, {func() { w.Text("") }, []byte{0}},
		{func() { w.Flag(true) }, []byte{1}}, {func() { w.Int(64) }, []byte{128, 1}}, {func() { w.Text("\xff") }, []byte{1, 255}},
	} {
		c.write()
		want = joined(want, c.is)
		if got := w.Bytes(); !bytes.Equal(got, want) || !bytes.Equal(w.Bytes(), want) {
			t.Errorf("%v, want %v", got, want)
		}
	}
}

// What Bytes answers is new memory each time: neither changing it nor writing on changes the other.
func TestP31BytesAreNew(t *testing.T) {
	w := NewWriter()
	var want []byte
	var kept [][]byte
	for i := range 40 {
		w.Num(uint64(i))
		want = append(want, byte(i))
		kept = append(kept, w.Bytes())
		other := append(w.Bytes(), 99, 99, 99)
		clear(other)
		if !bytes.Equal(w.Bytes(), want) {
			t.Fatal("a writer changes with what it answered")
		}
	}
	for i, b := range kept {
		if !bytes.Equal(b, want[:i+1]) {
			t.Error("what was answered changes with its writer:", b)
		}
	}
}

func TestP31WritersAreApart(t *testing.T) {
	a, b := NewWriter(), NewWriter()
	a.Text("a")
	b.Num(7)
	a.Flag(true)
	if !bytes.Equal(a.Bytes(), []byte{1, 'a', 1}) || !bytes.Equal(b.Bytes(), []byte{7}) {
		t.Error(a.Bytes(), b.Bytes())
	}
}

func TestP32OneBehindTheOther(t *testing.T) {
	r := NewReader([]byte{172, 2, 1, 1, 0, 2, 'a', 'b', 0, 128, 1, 5})
	checkEnd(t, "at its beginning", r, 12, api.ErrForm)
	if r.Num(300) != 300 || r.Left() != 10 || r.Int(-1, -1) != -1 || r.Left() != 9 || !r.Flag() || r.Flag() || r.Left() != 7 {
		t.Error("numbers")
	}
	if r.Text(2) != "ab" || r.Left() != 4 || r.Text(0) != "" || r.Left() != 3 || r.Int(64, 64) != 64 {
		t.Error("texts")
	}
	checkEnd(t, "a byte ahead of its end", r, 1, api.ErrForm)
	if r.Num(5) != 5 {
		t.Error("End ahead of the end breaks a reader")
	}
	checkEnd(t, "at its end", r, 0, api.OK)
	if r.Num(9) != 0 {
		t.Error("behind the end")
	}
	checkBroken(t, "behind its end", r, api.ErrShort)
}

func TestP32Nothing(t *testing.T) {
	for _, b := range [][]byte{nil, {}} {
		checkEnd(t, "nothing", NewReader(b), 0, api.OK)
		for what, read := range readers(t) {
			r := NewReader(b)
			read(r)
			checkBroken(t, what+" of nothing", r, api.ErrShort)
		}
	}
}

// readers are all ways to read that take whatever can be, and ask that nothing comes of it.
func readers(t *testing.T) map[string]func(r *Reader) {
	return map[string]func(r *Reader){
		"Num": func(r *Reader) {
			if n := r.Num(math.MaxUint64); n != 0 {
				t.Error("Num", n)
			}
		},
		"Int": func(r *Reader) {
			if n := r.Int(math.MinInt, math.MaxInt); n != 0 {
				t.Error("Int", n)
			}
		},
		"Flag": func(r *Reader) {
			if r.Flag() {
				t.Error("Flag")
			}
		},
		"Text": func(r *Reader) {
			if s := r.Text(math.MaxInt); s != "" {
				t.Error("Text", s)
			}
		},
	}
}

func TestP32WrongNumbers(t *testing.T) {
	for _, c := range []struct {
		b   []byte
		err api.Errno
	}{
		{wide(1), api.ErrShort}, {wide(9), api.ErrShort}, {bytes.Repeat([]byte{255}, 9), api.ErrShort},
		{wide(10), api.ErrForm}, {wide(11), api.ErrForm}, {joined(wide(10), []byte{1}), api.ErrForm}, {bytes.Repeat([]byte{255}, 10), api.ErrForm},
		{joined(wide(9), []byte{2}), api.ErrForm}, {joined(wide(9), []byte{127}), api.ErrForm}, {joined(wide(9), []byte{0}), api.ErrForm}, {joined(wide(9), []byte{2, 0}), api.ErrForm},
		{[]byte{128, 0}, api.ErrForm}, {[]byte{255, 0}, api.ErrForm}, {[]byte{129, 128, 0}, api.ErrForm}, {joined(wide(8), []byte{0}), api.ErrForm}, {[]byte{128, 0, 1}, api.ErrForm},
	} {
		for what, read := range readers(t) {
			r := NewReader(c.b)
			read(r)
			checkBroken(t, what, r, c.err)
		}
		// What is wrong of the number goes ahead of what may not be.
		r := NewReader(c.b)
		r.Text(-1)
		checkBroken(t, "a text that may not be", r, c.err)
		r = NewReader(c.b)
		r.Int(1, 0)
		checkBroken(t, "an int that may not be", r, c.err)
	}
}

func TestP32Num(t *testing.T) {
	for _, n := range numbers() {
		for _, most := range []uint64{n, n + 1, n - 1, 0, 9, math.MaxUint64} {
			r := NewReader(joined(num(n), []byte{7}))
			got := r.Num(most)
			if n > most {
				if got != 0 {
					t.Errorf("Num(%d) of %d = %d", most, n, got)
				}
				checkBroken(t, "above most", r, api.ErrRange)
				continue
			}
			if got != n {
				t.Errorf("Num(%d) of %d = %d", most, n, got)
			}
			checkEnd(t, "no more than most", r, 1, api.ErrForm)
		}
	}
}

func TestP32Int(t *testing.T) {
	for _, n := range ints() {
		for _, ends := range [][2]int{{n, n}, {math.MinInt, n}, {n, math.MaxInt}, {math.MinInt, math.MaxInt}, {n + 1, n}, {n + 1, math.MaxInt}, {math.MinInt, n - 1}, {n, n - 1}, {0, 0}, {-5, 5}, {5, -5}, {math.MaxInt, math.MinInt}} {
			low, high := ends[0], ends[1]
			r := NewReader(joined(binary.AppendVarint(nil, int64(n)), []byte{7}))
			got := r.Int(low, high)
			if n < low || n > high {
				if got != 0 {
					t.Errorf("Int(%d, %d) of %d = %d", low, high, n, got)
				}
				checkBroken(t, "an int out of its range", r, api.ErrRange)
				continue
			}
			if got != n {
				t.Errorf("Int(%d, %d) of %d = %d", low, high, n, got)
			}
			checkEnd(t, "an int of its range", r, 1, api.ErrForm)
		}
	}
}

func TestP32Flag(t *testing.T) {
	for _, n := range numbers() {
		r := NewReader(joined(num(n), []byte{1}))
		got := r.Flag()
		if got != (n == 1) {
			t.Errorf("Flag of %d is %t", n, got)
		}
		if n > 1 {
			checkBroken(t, "a flag above 1", r, api.ErrRange)
		} else {
			checkEnd(t, "a flag", r, 1, api.ErrForm)
		}
	}
}

func TestP32Text(t *testing.T) {
	for _, s := range texts() {
		b := joined(num(uint64(len(s))), []byte(s), []byte{9})
		for _, most := range []int{len(s), len(s) + 1, math.MaxInt} {
			r := NewReader(b)
			if got := r.Text(most); got != s {
				t.Errorf("Text(%d) of %.20q is %.20q", most, s, got)
			}
			checkEnd(t, "a text", r, 1, api.ErrForm)
		}
		for _, most := range []int{len(s) - 1, -1, -2, math.MinInt} {
			r := NewReader(b)
			if got := r.Text(most); got != "" {
				t.Errorf("Text(%d) of %.20q is %.20q", most, s, got)
			}
			checkBroken(t, "a text above most", r, api.ErrRange)
		}
		for _, less := range []int{1, len(s)} {
			if len(s) == 0 {
				continue
			}
			r := NewReader(b[:len(b)-1-less])
			if got := r.Text(len(s)); got != "" {
				t.Errorf("of less than %.20q comes %.20q", s, got)
			}
			checkBroken(t, "a text that ends too early", r, api.ErrShort)
		}
	}
}

// That a text is above most goes ahead of that fewer bytes are left.
func TestP32TextOfGreatLength(t *testing.T) {
	for _, c := range []struct {
		n    uint64
		most int
		err  api.Errno
	}{
		{3, 2, api.ErrRange}, {3, 3, api.ErrShort}, {3, -1, api.ErrRange}, {4, math.MaxInt, api.ErrShort},
		{math.MaxInt, math.MaxInt, api.ErrShort}, {math.MaxInt, math.MaxInt - 1, api.ErrRange},
		{1 << 63, math.MaxInt, api.ErrRange}, {math.MaxUint64, math.MaxInt, api.ErrRange}, {math.MaxUint64, -1, api.ErrRange}, {1 << 63, math.MinInt, api.ErrRange},
	} {
		r := NewReader(joined(num(c.n), []byte{'a', 'b'}))
		if got := r.Text(c.most); got != "" {
			t.Errorf("Text(%d) of %d bytes is %q", c.most, c.n, got)
		}
		checkBroken(t, "a text of great length", r, c.err)
	}
}

// The first thing that is wrong is kept, though later ones would be wrong otherwise, and bytes are left.
func TestP32FirstErrorIsKept(t *testing.T) {
	r := NewReader([]byte{10, 1, 128, 0})
	if r.Num(9) != 0 || r.Num(9) != 0 || r.Num(9) != 0 {
		t.Error("something is read")
	}
	checkBroken(t, "above most first", r, api.ErrRange)
	r = NewReader([]byte{1, 128, 0, 10, 1})
	if r.Num(9) != 1 || r.Num(9) != 0 || r.Num(9) != 0 {
		t.Error("what stands ahead isn't read, or what stands behind is")
	}
	checkBroken(t, "of another form first", r, api.ErrForm)
	r = NewReader([]byte{5, 'a'})
	if r.Text(9) != "" || r.Num(200) != 0 {
		t.Error("a text that ends too early is read")
	}
	checkBroken(t, "too short first", r, api.ErrShort)
}

func TestP32AllBytes(t *testing.T) {
	for _, b := range rows() {
		n, size, err := told(b)
		checkRead(t, b, len(b)-size, err, func(r *Reader) bool { return r.Num(math.MaxUint64) == n })
		checkRead(t, b, len(b)-size, err, func(r *Reader) bool { return r.Int(math.MinInt, math.MaxInt) == toldInt(n) })
		flag := err
		if err == api.OK && n > 1 {
			flag = api.ErrRange
		}
		checkRead(t, b, len(b)-size, flag, func(r *Reader) bool { return r.Flag() == (n == 1) })
		text, end := "", err
		if err == api.OK && n > math.MaxInt {
			end = api.ErrRange
		} else if err == api.OK && n > uint64(len(b)-size) {
			end = api.ErrShort
		} else if err == api.OK {
			text = string(b[size:][:n])
		}
		checkRead(t, b, len(b)-size-len(text), end, func(r *Reader) bool { return r.Text(math.MaxInt) == text })
	}
}

// checkRead asks that what is read of bytes is right, and where it ends.
func checkRead(t *testing.T, b []byte, left int, err api.Errno, right func(r *Reader) bool) {
	t.Helper()
	r := NewReader(b)
	if !right(r) {
		t.Errorf("%v: another one is read", b)
	}
	switch {
	case err != api.OK:
		left = 0
	case left > 0:
		err = api.ErrForm
	}
	checkEnd(t, "one of all bytes", r, left, err)
}

// Readers read what they were handed as it was then, and leave it as it is.
func TestP32NothingIsShared(t *testing.T) {
	room := []byte{2, 'a', 'b', 172, 2, 9, 9, 9}
	was := bytes.Clone(room)
	r, other := NewReader(room[:5]), NewReader(room[:5])
	text := r.Text(9)
	if !bytes.Equal(room, was) {
		t.Error("what was handed in is changed")
	}
	for i := range room {
		room[i] = 255
	}
	if text != "ab" || r.Num(300) != 300 || r.End() != api.OK {
		t.Error("a reader changes with what was handed in")
	}
	if other.Left() != 5 || other.Text(2) != "ab" || other.Num(300) != 300 || other.End() != api.OK {
		t.Error("one reader changes with another one")
	}
}

func TestP33NilWriter(t *testing.T) {
	var w *Writer
	w.Num(7)
	w.Int(-7)
	w.Flag(true)
	w.Text("abc")
	w.Text("")
	if len(w.Bytes()) != 0 {
		t.Error(w.Bytes())
	}
}

func TestP33NilReader(t *testing.T) {
	var r *Reader
	checkBroken(t, "nil", r, api.ErrNil)
}

// part is something that can be written, and asked for.
type part struct {
	write func(w *Writer)
	read  func(r *Reader) bool
}

// parts are all numbers, ints, truths and texts, mixed, each allowed as narrowly as can be.
func parts() []part {
	var l []part
	for i, n := range numbers() {
		is := i%2 == 0
		l = append(l, part{func(w *Writer) { w.Num(n) }, func(r *Reader) bool { return r.Num(n) == n }})
		l = append(l, part{func(w *Writer) { w.Flag(is) }, func(r *Reader) bool { return r.Flag() == is }})
	}
	for i, n := range ints() {
		s := texts()[i%len(texts())]
		l = append(l, part{func(w *Writer) { w.Int(n) }, func(r *Reader) bool { return r.Int(n, n) == n }})
		l = append(l, part{func(w *Writer) { w.Text(s) }, func(r *Reader) bool { return r.Text(len(s)) == s }})
	}
	return l
}

func TestP34WrittenIsRead(t *testing.T) {
	w := NewWriter()
	for _, p := range parts() {
		p.write(w)
	}
	r := NewReader(w.Bytes())
	left := r.Left()
	for i, p := range parts() {
		if !p.read(r) || r.Left() >= left {
			t.Fatalf("part %d is read as another one", i)
		}
		left = r.Left()
	}
	checkEnd(t, "all parts", r, 0, api.OK)
}

// What is read to the end, in any of the four ways, is written as the same bytes.
func TestP34ReadIsWritten(t *testing.T) {
	ends := 0
	for _, b := range rows() {
		for way := range 16 {
			r, w := NewReader(b), NewWriter()
			for i := 0; r.Left() > 0; i++ {
				switch (way >> (i % 4 / 2 * 2)) % 4 {
				case 0:
					w.Num(r.Num(math.MaxUint64))
				case 1:
					w.Int(r.Int(math.MinInt, math.MaxInt))
				case 2:
					w.Flag(r.Flag())
				case 3:
					w.Text(r.Text(math.MaxInt))
				}
			}
			if r.End() != api.OK {
				continue
			}
			ends++
			if !bytes.Equal(w.Bytes(), b) {
				t.Errorf("%v is written as %v", b, w.Bytes())
			}
		}
	}
	if ends < 1000 {
		t.Error("too few bytes are read to the end:", ends)
	}
}
