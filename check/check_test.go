package check

import (
	"bytes"
	"encoding/binary"
	"hash/fnv"
	"math"
	"math/big"
	"testing"
)

// row answers n bytes, others for each seed.
func row(n, seed int) []byte {
	b := make([]byte, n)
	x := uint32(seed)*2654435761 + 12345
	for i := range b {
		x = x*1664525 + 1013904223
		b[i] = byte(x >> 24)
	}
	return b
}

// rows are bytes of many lengths: none, few, each byte once, noughts, greatest bytes, mixed ones.
func rows() [][]byte {
	each := make([]byte, 256)
	for i := range each {
		each[i] = byte(i)
	}
	l := [][]byte{nil, {}, {0}, {1}, {255}, {0, 0}, {1, 2, 3}, {3, 2, 1}, each, make([]byte, 40), bytes.Repeat([]byte{255}, 40)}
	for n := range 30 {
		l = append(l, row(n, n+7))
	}
	return append(l, row(1000, 3), row(70000, 4))
}

// starts are sums to go on from.
func starts() []uint64 {
	return []uint64{0, 1, 255, 256, 1 << 32, 1 << 63, math.MaxUint64, 14695981039346656037, 1099511628211, 0x0123456789abcdef}
}

// summed answers More by the document's words, over numbers that know no wrap-round.
func summed(h uint64, b []byte) uint64 {
	sum := new(big.Int).SetUint64(h)
	whole := new(big.Int).Lsh(big.NewInt(1), 64)
	for _, c := range b {
		sum.Xor(sum, big.NewInt(int64(c)))
		sum.Mul(sum, big.NewInt(1099511628211))
		sum.Mod(sum, whole)
	}
	return sum.Uint64()
}

func joined(parts ...[]byte) []byte {
	return bytes.Join(parts, nil)
}

func TestP21MoreOfFew(t *testing.T) {
	for _, c := range []struct {
		h    uint64
		b    []byte
		want uint64
	}{
		{0, nil, 0}, {7, nil, 7}, {7, []byte{}, 7}, {math.MaxUint64, nil, math.MaxUint64},
		{0, []byte{0}, 0}, {0, []byte{0, 0, 0}, 0}, {0, []byte{1}, 1099511628211}, {1, []byte{1}, 0}, {1, []byte{0}, 1099511628211},
		{0, []byte{2}, 2 * 1099511628211}, {255, []byte{255}, 0}, {256, []byte{0}, 256 * 1099511628211}, {257, []byte{1}, 256 * 1099511628211},
		{0, []byte{255}, 255 * 1099511628211}, {3, []byte{5}, 6 * 1099511628211},
		{math.MaxUint64, []byte{0}, 18446742974197923405}, {math.MaxUint64, []byte{254}, 18446463698244357811},
		{1 << 63, []byte{0}, 1 << 63},
	} {
		if got := More(c.h, c.b); got != c.want {
			t.Errorf("More(%d, %v) = %d, want %d", c.h, c.b, got, c.want)
		}
	}
}

func TestP21MoreOfMany(t *testing.T) {
	for _, h := range starts() {
		for _, b := range rows() {
			if got, want := More(h, b), summed(h, b); got != want {
				t.Errorf("More of %d and %d bytes: %d, want %d", h, len(b), got, want)
			}
		}
	}
}

func TestP21Of(t *testing.T) {
	for _, c := range []struct {
		text string
		want uint64
	}{
		{"", 14695981039346656037}, {"a", 0xaf63dc4c8601ec8c}, {"b", 0xaf63df4c8601f1a5}, {"foobar", 0x85944171f73967e8},
	} {
		if got := Of([]byte(c.text)); got != c.want {
			t.Errorf("Of(%q) = %d, want %d", c.text, got, c.want)
		}
	}
	if Of(nil) != 14695981039346656037 {
		t.Error("of nothing:", Of(nil))
	}
	for _, b := range rows() {
		other := fnv.New64a()
		other.Write(b)
		if Of(b) != other.Sum64() || Of(b) != More(14695981039346656037, b) {
			t.Errorf("of %d bytes: %d, want %d", len(b), Of(b), other.Sum64())
		}
	}
}

func TestP21OrderCounts(t *testing.T) {
	if Of([]byte{1, 2}) == Of([]byte{2, 1}) || Of([]byte{0}) == Of(nil) || Of([]byte{0, 0}) == Of([]byte{0}) {
		t.Error("other rows have the same sum")
	}
}

func TestP22SealOfFew(t *testing.T) {
	for _, c := range []struct {
		text string
		want []byte
	}{
		{"", []byte{0x25, 0x23, 0x22, 0x84, 0xe4, 0x9c, 0xf2, 0xcb}},
		{"a", []byte{'a', 0x8c, 0xec, 0x01, 0x86, 0x4c, 0xdc, 0x63, 0xaf}},
		{"foobar", []byte{'f', 'o', 'o', 'b', 'a', 'r', 0xe8, 0x67, 0x39, 0xf7, 0x71, 0x41, 0x94, 0x85}},
	} {
		if got := Seal([]byte(c.text)); !bytes.Equal(got, c.want) {
			t.Errorf("Seal(%q) = %x, want %x", c.text, got, c.want)
		}
	}
	if len(Seal(nil)) != 8 {
		t.Error("of nothing:", Seal(nil))
	}
}

func TestP22SealAndOpen(t *testing.T) {
	for _, b := range rows() {
		sealed := Seal(b)
		if want := binary.LittleEndian.AppendUint64(joined(b), Of(b)); !bytes.Equal(sealed, want) {
			t.Errorf("the Seal of %d bytes: %x, want %x", len(b), sealed, want)
		}
		if got, ok := Open(sealed); !ok || !bytes.Equal(got, b) {
			t.Errorf("Open of the Seal of %d bytes: %d bytes, %t", len(b), len(got), ok)
		}
	}
}

func TestP22SealOfASeal(t *testing.T) {
	b := row(20, 1)
	once, ok := Open(Seal(Seal(b)))
	if !ok || !bytes.Equal(once, Seal(b)) {
		t.Fatal(once, ok)
	}
	if twice, ok := Open(once); !ok || !bytes.Equal(twice, b) {
		t.Error(twice, ok)
	}
}

// checkShut asks that bytes are the Seal of none.
func checkShut(t *testing.T, what string, b []byte) {
	t.Helper()
	if got, ok := Open(b); ok || got != nil {
		t.Errorf("%s: %x is opened: %x, %t", what, b, got, ok)
	}
}

func TestP22OpenOfNoSeal(t *testing.T) {
	checkShut(t, "nil", nil)
	for n := range 12 {
		checkShut(t, "noughts", make([]byte, n))
		checkShut(t, "any bytes", row(n, n+1))
	}
	empty := Seal(nil)
	for n := range empty {
		checkShut(t, "too short", empty[:n])
		checkShut(t, "too short at its beginning", empty[n+1:])
	}
	for _, b := range rows()[:20] {
		sealed := Seal(b)
		checkShut(t, "a byte less", sealed[:len(sealed)-1])
		checkShut(t, "the first byte less", sealed[1:])
		checkShut(t, "a byte more", joined(sealed, []byte{0}))
		checkShut(t, "a byte ahead", joined([]byte{0}, sealed))
		if len(b) > 0 {
			checkShut(t, "bytes alone", b)
			checkShut(t, "the sum of nothing", joined(b, empty))
			checkShut(t, "the sum ahead", joined(sealed[len(b):], b))
		}
		checkShut(t, "the highest first", binary.BigEndian.AppendUint64(joined(b), Of(b)))
	}
}

// What was handed in stays as it was, also in the room behind it, and answers stand in other memory.
func TestP22NothingIsShared(t *testing.T) {
	room := row(40, 9)
	was := bytes.Clone(room)
	b := room[:10]
	sealed := Seal(b)
	if !bytes.Equal(room, was) {
		t.Error("Seal writes behind what it was handed")
	}
	kept := bytes.Clone(sealed)
	b[0]++
	if !bytes.Equal(sealed, kept) {
		t.Error("a Seal changes with what was sealed")
	}
	opened, _ := Open(sealed)
	if !bytes.Equal(sealed, kept) {
		t.Error("Open changes what it was handed")
	}
	opened = append(opened, 1, 2, 3)
	opened[0]++
	if !bytes.Equal(sealed, kept) {
		t.Error("what was opened is of the Seal's memory")
	}
}

func TestP22SealIsNewEachTime(t *testing.T) {
	first, second := Seal([]byte{1, 2}), Seal([]byte{1, 2})
	first[0], first[9] = 77, 77
	if got, ok := Open(second); !ok || !bytes.Equal(got, []byte{1, 2}) {
		t.Error(second, got, ok)
	}
}

func TestP23MoreGoesOn(t *testing.T) {
	for _, h := range starts() {
		for _, n := range []int{0, 1, 2, 9, 50} {
			b := row(n, n)
			for cut := range n + 1 {
				if More(More(h, b[:cut]), b[cut:]) != More(h, b) || More(Of(b[:cut]), b[cut:]) != Of(b) {
					t.Errorf("%d and %d bytes behind %d", cut, n-cut, h)
				}
			}
		}
	}
}

func TestP23AnotherByteAnotherSum(t *testing.T) {
	for _, b := range [][]byte{{0}, {255}, {0, 0, 0}, []byte("foobar"), row(33, 5), make([]byte, 64)} {
		for i := range b {
			for d := 1; d < 256; d++ {
				c := bytes.Clone(b)
				c[i] ^= byte(d)
				if Of(c) == Of(b) || More(0, c) == More(0, b) {
					t.Errorf("%x and %x have the same sum", b, c)
				}
			}
		}
	}
}

func TestP23ChangedSealIsShut(t *testing.T) {
	for _, b := range [][]byte{nil, {0}, {1, 2, 3}, []byte("foobar"), row(33, 6)} {
		sealed := Seal(b)
		for i := range sealed {
			for d := 1; d < 256; d++ {
				c := bytes.Clone(sealed)
				c[i] ^= byte(d)
				checkShut(t, "a byte is another one", c)
			}
		}
	}
}
