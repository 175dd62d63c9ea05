package cursor

import (
	"bytes"
	"math"
	"testing"

	"whorl/varint"
)

// all is all that is left of a cursor, taken at once.
func all(t *testing.T, c *Cursor) []byte {
	t.Helper()
	n := c.Left()
	b, ok := c.Take(n)
	if !ok || len(b) != n || c.Left() != 0 {
		t.Fatalf("Take of all %d is %v, %v, and %d are left", n, b, ok, c.Left())
	}
	return b
}

// checkLeft takes all that is left, and holds it against want.
func checkLeft(t *testing.T, what string, c *Cursor, want []byte) {
	t.Helper()
	if c.Left() != len(want) {
		t.Errorf("%s: %d bytes are left, not %d", what, c.Left(), len(want))
	}
	if b := all(t, c); !bytes.Equal(b, want) {
		t.Errorf("%s: %v is left, not %v", what, b, want)
	}
}

// several are texts of bytes, of none, few and many.
func several() [][]byte {
	every := make([]byte, 256)
	for i := range every {
		every[i] = byte(i)
	}
	return [][]byte{
		nil, {}, {0}, {1}, {127}, {128}, {255}, {172, 2}, {128, 0}, {1, 2, 3}, {1, 2, 3, 4}, {1, 2, 3, 4, 5},
		bytes.Repeat([]byte{255}, 9), bytes.Repeat([]byte{128}, 12), every, bytes.Repeat(every, 40),
	}
}

// P3.1: Byte.
func TestByteIsEachInItsOrder(t *testing.T) {
	for _, text := range several() {
		c := New(text)
		for i, want := range text {
			if b, ok := c.Byte(); b != want || !ok || c.Left() != len(text)-i-1 {
				t.Fatalf("byte %d of %d is %d, %v, and %d are left", i, len(text), b, ok, c.Left())
			}
		}
		for range 3 {
			if b, ok := c.Byte(); b != 0 || ok || c.Left() != 0 {
				t.Fatalf("behind %d bytes is %d, %v, and %d are left", len(text), b, ok, c.Left())
			}
		}
	}
}

// P3.1: Take, of each number that is there.
func TestTakeIsWhatComesNext(t *testing.T) {
	text := []byte{9, 8, 0, 255, 128, 7}
	for n := range len(text) + 1 {
		c := New(text)
		b, ok := c.Take(n)
		if !bytes.Equal(b, text[:n]) || !ok {
			t.Errorf("Take(%d) is %v, %v", n, b, ok)
		}
		checkLeft(t, "behind Take", c, text[n:])
	}
}

// P3.1: Take of what is not there.
func TestTakeRefuses(t *testing.T) {
	for _, text := range several() {
		for _, n := range []int{
			-1, -2, -len(text) - 1, math.MinInt, math.MinInt + 1, math.MinInt32,
			len(text) + 1, len(text) + 2, 2*len(text) + 1, math.MaxInt32, math.MaxInt - 1, math.MaxInt,
		} {
			c := New(text)
			if b, ok := c.Take(n); len(b) != 0 || ok {
				t.Errorf("Take(%d) of %d is %v, %v", n, len(text), b, ok)
			}
			checkLeft(t, "behind a Take that is refused", c, text)
		}
	}
}

// P3.1: Take where some bytes are gone: it is what is left that counts, not what was handed in.
func TestTakeBehindOthers(t *testing.T) {
	text := []byte{1, 2, 3, 4, 5}
	for gone := range len(text) + 1 {
		c := New(text)
		c.Take(gone)
		left := len(text) - gone
		for _, n := range []int{left + 1, len(text) + 1, math.MaxInt, -1, -gone - 1} {
			if b, ok := c.Take(n); len(b) != 0 || ok || c.Left() != left {
				t.Errorf("behind %d, Take(%d) is %v, %v, and %d are left", gone, n, b, ok, c.Left())
			}
		}
		checkLeft(t, "just all", c, text[gone:])
	}
}

// P3.1: Take(0).
func TestTakeOfNone(t *testing.T) {
	for _, text := range several() {
		c := New(text)
		for range 3 {
			if b, ok := c.Take(0); len(b) != 0 || !ok || c.Left() != len(text) {
				t.Errorf("Take(0) of %d is %v, %v, and %d are left", len(text), b, ok, c.Left())
			}
		}
		checkLeft(t, "behind Take(0)", c, text)
		if b, ok := c.Take(0); len(b) != 0 || !ok {
			t.Errorf("Take(0) behind the end of %d is %v, %v", len(text), b, ok)
		}
	}
}

// numbers are those at which a length begins or ends, and those that int can or cannot hold.
func numbers() []uint64 {
	list := []uint64{0, 1, 2, 5, 299, 300, 301, math.MaxInt32, math.MaxInt64 - 1, math.MaxInt64}
	for d := 7; d < 63; d += 7 {
		list = append(list, 1<<d-1, 1<<d, 1<<d+1)
	}
	return list
}

// P3.1: Varint, at its bound, beside it and far from it, whatever stands behind the number.
func TestVarintAtItsBound(t *testing.T) {
	for _, v := range numbers() {
		for _, tail := range [][]byte{nil, {0}, {128}, {255, 255}, {172, 2}} {
			text := append(varint.Put(v), tail...)
			for _, most := range []int{int(v), int(v) | 1<<40, math.MaxInt} {
				c := New(text)
				if got, ok := c.Varint(most); got != int(v) || !ok {
					t.Errorf("Varint(%d) of %v is %d, %v", most, text, got, ok)
				}
				checkLeft(t, "behind Varint", c, tail)
			}
			for _, most := range []int{int(v) - 1, int(v)/2 - 1, -1, -int(v) - 1, math.MinInt + 1, math.MinInt} {
				c := New(text)
				if got, ok := c.Varint(most); got != 0 || ok {
					t.Errorf("Varint(%d) of %v is %d, %v", most, text, got, ok)
				}
				checkLeft(t, "behind a Varint that is refused", c, text)
			}
		}
	}
}

// P3.1: the chapter's example, and what its neighbours are.
func TestVarintOfTheExample(t *testing.T) {
	c := New([]byte{172, 2})
	if v, ok := c.Varint(299); v != 0 || ok || c.Left() != 2 {
		t.Errorf("Varint(299) is %d, %v, and %d are left", v, ok, c.Left())
	}
	if v, ok := c.Varint(300); v != 300 || !ok || c.Left() != 0 {
		t.Errorf("Varint(300) is %d, %v, and %d are left", v, ok, c.Left())
	}
	if v, ok := c.Varint(301); v != 0 || ok || c.Left() != 0 {
		t.Errorf("behind the end Varint is %d, %v", v, ok)
	}
}

// P3.1: Varint of numbers that no int is: they are more than any most, and are not taken as numbers below 0.
func TestVarintPastEachInt(t *testing.T) {
	for _, v := range []uint64{1 << 63, 1<<63 + 1, 1<<63 + 5, math.MaxUint64 - 1, math.MaxUint64} {
		text := varint.Put(v)
		for _, most := range []int{math.MaxInt, math.MaxInt - 1, 5, 0, -1, math.MinInt} {
			c := New(text)
			if got, ok := c.Varint(most); got != 0 || ok {
				t.Errorf("Varint(%d) of %d is %d, %v", most, v, got, ok)
			}
			checkLeft(t, "behind a number past each int", c, text)
		}
	}
}

// P3.1: Varint of bytes that are no number by chapter 1.
func TestVarintRefusesWhatIsNone(t *testing.T) {
	full := bytes.Repeat([]byte{255}, 9)
	for _, text := range [][]byte{
		nil, {}, {128}, {255}, {172}, {128, 128}, full, full[:5],
		{128, 0}, {129, 0}, {172, 130, 0}, {128, 128, 0, 1},
		append(bytes.Clone(full), 2), append(bytes.Clone(full), 255, 1), bytes.Repeat([]byte{128}, 1000),
	} {
		for _, most := range []int{math.MaxInt, 300, 0, -1} {
			c := New(text)
			if v, ok := c.Varint(most); v != 0 || ok {
				t.Errorf("Varint(%d) of %v is %d, %v", most, text, v, ok)
			}
			checkLeft(t, "behind what is no number", c, text)
		}
	}
}

// P3.1: Varint of each number cut short.
func TestVarintCutShort(t *testing.T) {
	for _, v := range numbers() {
		whole := varint.Put(v)
		for n := range len(whole) {
			c := New(whole[:n])
			if got, ok := c.Varint(math.MaxInt); got != 0 || ok {
				t.Errorf("Varint of %v is %d, %v", whole[:n], got, ok)
			}
			checkLeft(t, "behind a number cut short", c, whole[:n])
		}
	}
}

// P3.1: Four.
func TestFourIsTheLowestFirst(t *testing.T) {
	for _, x := range []struct {
		text []byte
		want uint32
	}{
		{[]byte{0, 0, 0, 0}, 0},
		{[]byte{1, 0, 0, 0}, 1},
		{[]byte{0, 1, 0, 0}, 1 << 8},
		{[]byte{0, 0, 1, 0}, 1 << 16},
		{[]byte{0, 0, 0, 1}, 1 << 24},
		{[]byte{0, 0, 0, 128}, 1 << 31},
		{[]byte{4, 3, 2, 1}, 0x01020304},
		{[]byte{0x98, 0xba, 0xdc, 0xfe}, 0xfedcba98},
		{[]byte{255, 255, 255, 255}, math.MaxUint32},
	} {
		for _, tail := range [][]byte{nil, {9}, {1, 2, 3}, {1, 2, 3, 4}} {
			c := New(append(bytes.Clone(x.text), tail...))
			if v, ok := c.Four(); v != x.want || !ok {
				t.Errorf("Four of %v is %x, %v, not %x", x.text, v, ok, x.want)
			}
			checkLeft(t, "behind Four", c, tail)
		}
	}
}

// P3.1: Four is chapter 1's, read back.
func TestFourReadsWhatFourMakes(t *testing.T) {
	for d := range 32 {
		for _, v := range []uint32{1 << d, 1<<d - 1, ^uint32(0) << d, 0x9e3779b9 >> d} {
			if got, ok := New(varint.Four(v)).Four(); got != v || !ok {
				t.Errorf("Four of Four(%x) is %x, %v", v, got, ok)
			}
		}
	}
}

// P3.1: Four cut short.
func TestFourCutShort(t *testing.T) {
	whole := []byte{1, 2, 3, 4, 5, 6, 7}
	for n := range 4 {
		c := New(whole[:n])
		if v, ok := c.Four(); v != 0 || ok {
			t.Errorf("Four of %d bytes is %x, %v", n, v, ok)
		}
		checkLeft(t, "behind a Four cut short", c, whole[:n])
	}
	c := New(whole)
	c.Four()
	if v, ok := c.Four(); v != 0 || ok {
		t.Errorf("Four of the last three is %x, %v", v, ok)
	}
	checkLeft(t, "behind the last Four", c, whole[4:])
}

// P3.1: all of them, one after the other, and each refused on its way.
func TestInOrder(t *testing.T) {
	var text []byte
	for _, part := range [][]byte{{7}, varint.Put(300), varint.Four(0x04030201), {9, 8}, varint.Put(0), {128}} {
		text = append(text, part...)
	}
	c := New(text)
	if b, ok := c.Byte(); b != 7 || !ok || c.Left() != 10 {
		t.Errorf("Byte is %d, %v, and %d are left", b, ok, c.Left())
	}
	if v, ok := c.Varint(299); v != 0 || ok || c.Left() != 10 {
		t.Errorf("Varint(299) is %d, %v, and %d are left", v, ok, c.Left())
	}
	if v, ok := c.Varint(300); v != 300 || !ok || c.Left() != 8 {
		t.Errorf("Varint(300) is %d, %v, and %d are left", v, ok, c.Left())
	}
	if v, ok := c.Four(); v != 0x04030201 || !ok || c.Left() != 4 {
		t.Errorf("Four is %x, %v, and %d are left", v, ok, c.Left())
	}
	if b, ok := c.Take(5); len(b) != 0 || ok || c.Left() != 4 {
		t.Errorf("Take(5) is %v, %v, and %d are left", b, ok, c.Left())
	}
	if b, ok := c.Take(2); !bytes.Equal(b, []byte{9, 8}) || !ok || c.Left() != 2 {
		t.Errorf("Take(2) is %v, %v, and %d are left", b, ok, c.Left())
	}
	if v, ok := c.Varint(0); v != 0 || !ok || c.Left() != 1 {
		t.Errorf("Varint(0) is %d, %v, and %d are left", v, ok, c.Left())
	}
	if v, ok := c.Varint(math.MaxInt); v != 0 || ok || c.Left() != 1 {
		t.Errorf("Varint of what has no end is %d, %v, and %d are left", v, ok, c.Left())
	}
	checkLeft(t, "at the end", c, []byte{128})
}

// P3.1: bytes taken in parts are the bytes, in order.
func TestInParts(t *testing.T) {
	for _, text := range several() {
		for size := 1; size < 9; size++ {
			c := New(text)
			var got []byte
			for c.Left() > 0 {
				b, ok := c.Take(min(size, c.Left()))
				if !ok {
					t.Fatalf("a part of %d is not there", size)
				}
				got = append(got, b...)
			}
			if !bytes.Equal(got, text) {
				t.Errorf("%d bytes in parts of %d are others", len(text), size)
			}
		}
	}
}

// P3.2 and W6: what is handed in is not changed, nor the room behind it; nor is that room taken.
func TestArgumentIsNotChanged(t *testing.T) {
	whole := []byte{172, 2, 1, 2, 3, 4, 5, 6, 99, 98}
	before := bytes.Clone(whole)
	c := New(whole[:8])
	c.Varint(300)
	c.Four()
	c.Byte()
	b, _ := c.Take(1)
	b[0] = 77
	_ = append(b, 76, 75)
	if x, ok := c.Byte(); x != 0 || ok || c.Left() != 0 {
		t.Errorf("the room behind the end is read: %d, %v", x, ok)
	}
	if !bytes.Equal(whole, before) {
		t.Errorf("the bytes handed in are %v", whole)
	}
}

// P3.2 and W6: what is handed in is not kept.
func TestArgumentIsNotKept(t *testing.T) {
	for _, text := range several() {
		mine := bytes.Clone(text)
		c := New(mine)
		for i := range mine {
			mine[i] ^= 255
		}
		checkLeft(t, "where what was handed in changed", c, text)
	}
	mine := []byte{1, 2, 3, 4, 5, 6}
	c := New(mine)
	c.Byte()
	clear(mine)
	if v, ok := c.Four(); v != 0x05040302 || !ok {
		t.Errorf("Four is %x, %v", v, ok)
	}
}

// fill changes all of a list, its spare room too.
func fill(b []byte) {
	b = b[:cap(b)]
	for i := range b {
		b[i] = 0xee
	}
}

// P3.2, W6 and W7: what is answered is new memory, spare room too, and stays.
func TestAnswersShareNothing(t *testing.T) {
	text := []byte{1, 2, 3, 4, 5, 6, 7, 8, 9}
	for n := range len(text) + 1 {
		c := New(text)
		one, _ := c.Take(n)
		fill(one)
		checkLeft(t, "behind an answer that is changed", c, text[n:])
	}
	c := New(text)
	one, _ := c.Take(3)
	other, _ := c.Take(3)
	fill(other)
	if !bytes.Equal(one, text[:3]) {
		t.Errorf("the first answer is %v", one)
	}
	fill(one)
	last, _ := c.Take(3)
	if !bytes.Equal(last, text[6:]) {
		t.Errorf("the last answer is %v", last)
	}
	c.Byte()
	if !bytes.Equal(last, text[6:]) {
		t.Errorf("the last answer did not stay: %v", last)
	}
}

// P3.2: two cursors of the same bytes have nothing of one another.
func TestCursorsAreOnTheirOwn(t *testing.T) {
	text := []byte{1, 2, 3}
	one, other := New(text), New(text)
	b, _ := one.Take(3)
	fill(b)
	checkLeft(t, "another cursor", other, text)
}

// P3.1: a cursor of no bytes has none, but none of them can be taken; so has one that New did not make.
func TestNoBytes(t *testing.T) {
	for name, c := range map[string]*Cursor{"nil bytes": New(nil), "empty": New([]byte{}), "zero": {}} {
		if c == nil {
			t.Fatalf("%s: no cursor", name)
		}
		b, byteOK := c.Byte()
		v, varintOK := c.Varint(math.MaxInt)
		f, fourOK := c.Four()
		if b != 0 || v != 0 || f != 0 || byteOK || varintOK || fourOK {
			t.Errorf("%s: Byte %d, Varint %d, Four %d", name, b, v, f)
		}
		if list, ok := c.Take(1); len(list) != 0 || ok {
			t.Errorf("%s: Take(1) is %v, %v", name, list, ok)
		}
		if list, ok := c.Take(0); len(list) != 0 || !ok || c.Left() != 0 {
			t.Errorf("%s: Take(0) is %v, %v", name, list, ok)
		}
	}
}

// P3.2: a nil Cursor has nothing.
func TestNilCursor(t *testing.T) {
	var c *Cursor
	for range 2 {
		b, byteOK := c.Byte()
		f, fourOK := c.Four()
		if b != 0 || f != 0 || byteOK || fourOK || c.Left() != 0 {
			t.Errorf("Byte %d, %v, Four %d, %v, and %d are left", b, byteOK, f, fourOK, c.Left())
		}
		for _, n := range []int{0, 1, -1, math.MaxInt, math.MinInt} {
			if list, ok := c.Take(n); len(list) != 0 || ok {
				t.Errorf("Take(%d) is %v, %v", n, list, ok)
			}
			if v, ok := c.Varint(n); v != 0 || ok {
				t.Errorf("Varint(%d) is %d, %v", n, v, ok)
			}
		}
	}
}

// FuzzCursor takes by a script, and holds each answer against what is left.
func FuzzCursor(f *testing.F) {
	f.Add([]byte{7, 172, 2, 1, 2, 3, 4, 9, 8, 128}, []byte{0, 2, 3, 1, 2})
	f.Add([]byte{}, []byte{0, 1, 2, 3})
	f.Fuzz(func(t *testing.T, text, script []byte) {
		c, left := New(text), text
		for _, step := range script {
			n := 0
			switch step % 4 {
			case 0:
				if b, ok := c.Byte(); ok {
					n = 1
					if b != left[0] {
						t.Fatal("another byte")
					}
				}
			case 1:
				if b, ok := c.Take(int(step / 4)); ok {
					n = int(step / 4)
					if !bytes.Equal(b, left[:n]) {
						t.Fatal("other bytes")
					}
				}
			case 2:
				if v, ok := c.Varint(1 << (step / 4)); ok {
					n = len(varint.Put(uint64(v)))
					if !bytes.HasPrefix(left, varint.Put(uint64(v))) {
						t.Fatal("another number")
					}
				}
			case 3:
				if v, ok := c.Four(); ok {
					n = 4
					if !bytes.HasPrefix(left, varint.Four(v)) {
						t.Fatal("another four")
					}
				}
			}
			left = left[n:]
			if c.Left() != len(left) {
				t.Fatalf("%d are left, not %d", c.Left(), len(left))
			}
		}
	})
}
