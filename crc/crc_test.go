package crc

import (
	"bytes"
	"hash/crc32"
	"slices"
	"sync"
	"testing"
)

// bitwise is the sum told without a table: each digit of each byte on its own.
func bitwise(b []byte) uint32 {
	x := uint32(0xffffffff)
	for _, y := range b {
		x ^= uint32(y)
		for range 8 {
			if x&1 == 1 {
				x = x>>1 ^ 0xedb88320
			} else {
				x >>= 1
			}
		}
	}
	return ^x
}

// long are bytes from a rule that never changes.
func long(count int) []byte {
	b := make([]byte, count)
	x := uint32(2463534242)
	for i := range b {
		x ^= x << 13
		x ^= x >> 17
		x ^= x << 5
		b[i] = byte(x >> 24)
	}
	return b
}

// texts are ordinary ones, the edges, every single byte and long ones.
func texts() [][]byte {
	all := [][]byte{
		nil, {}, []byte("a"), []byte("abc"), []byte("123456789"), []byte("the quick brown fox"),
		{0, 0, 0, 0}, {255, 255, 255, 255}, {255, 255, 255, 255, 0}, {0, 0, 0, 0, 0, 0, 0, 0, 1},
		make([]byte, 1000), bytes.Repeat([]byte{255}, 1000), long(2), long(3), long(255), long(256), long(257), long(100000),
	}
	for x := range 256 {
		all = append(all, []byte{byte(x)})
	}
	return all
}

// P2.1: Table.
func TestTableHasTheNumbersTold(t *testing.T) {
	table := New().Table()
	for i, want := range map[int]uint32{
		0: 0, 1: 0x77073096, 2: 0xee0e612c, 3: 0x990951ba, 8: 0x0edb8832, 16: 0x1db71064, 32: 0x3b6e20c8,
		64: 0x76dc4190, 128: 0xedb88320, 129: 0x9abfb3b6, 254: 0x5a05df1b, 255: 0x2d02ef8d,
	} {
		if table[i] != want {
			t.Errorf("number %d is %x, not %x", i, table[i], want)
		}
	}
}

// P2.1: Table, each number of it.
func TestTableIsEightSteps(t *testing.T) {
	for i, got := range New().Table() {
		x := uint32(i)
		for range 8 {
			if x%2 == 1 {
				x = x/2 ^ 0xedb88320
			} else {
				x = x / 2
			}
		}
		if got != x || got != crc32.IEEETable[i] {
			t.Errorf("number %d is %x, not %x (%x)", i, got, x, crc32.IEEETable[i])
		}
	}
}

// P2.1: Sum, of sums that are known.
func TestSumOfTheKnown(t *testing.T) {
	c := New()
	for text, want := range map[string]uint32{
		"":                 0,
		"a":                0xe8b7be43,
		"abc":              0x352441c2,
		"123456789":        0xcbf43926,
		"\x00":             0xd202ef8d,
		"\xff":             0xff000000,
		"\x00\x00\x00\x00": 0x2144df1c,
		"\xff\xff\xff\xff": 0xffffffff,
		"The quick brown fox jumps over the lazy dog": 0x414fa339,
	} {
		if x := c.Sum([]byte(text)); x != want {
			t.Errorf("Sum(%q) is %x, not %x", text, x, want)
		}
	}
}

// P2.1: Sum, at all texts.
func TestSumIsTheSumTold(t *testing.T) {
	c := New()
	for _, text := range texts() {
		if x := c.Sum(text); x != bitwise(text) || x != crc32.ChecksumIEEE(text) {
			t.Errorf("Sum of %d bytes is %x, not %x", len(text), x, bitwise(text))
		}
	}
}

// P2.1: Sum of no bytes.
func TestSumOfNothing(t *testing.T) {
	for name, rows := range map[string][][]byte{
		"no rows": nil, "an empty list": {}, "a nil row": {nil}, "an empty row": {{}}, "several": {nil, {}, nil, {}},
	} {
		c := New()
		if x := c.Sum(rows...); x != 0 || c.Runs() != 1 {
			t.Errorf("%s: the sum is %x, Runs %d", name, x, c.Runs())
		}
	}
}

// parted are ways to part a text into rows.
func parted(text []byte) map[string][][]byte {
	ways := map[string][][]byte{
		"whole":                  {text},
		"empty ones around":      {nil, text, {}},
		"one byte each":          slices.Collect(slices.Chunk(text, 1)),
		"two bytes each":         slices.Collect(slices.Chunk(text, 2)),
		"seven bytes each":       slices.Collect(slices.Chunk(text, 7)),
		"at half":                {text[:len(text)/2], text[len(text)/2:]},
		"at half, empty between": {text[:len(text)/2], nil, {}, text[len(text)/2:]},
	}
	var growing [][]byte
	for rest, n := text, 0; len(rest) > 0; n++ {
		n = min(n, len(rest))
		growing = append(growing, rest[:n])
		rest = rest[n:]
	}
	ways["growing"] = growing
	return ways
}

// P2.2: rows.
func TestSumHoweverParted(t *testing.T) {
	c := New()
	for _, text := range append(texts(), long(2000)) {
		for name, rows := range parted(text) {
			if x := c.Sum(rows...); x != bitwise(text) {
				t.Errorf("Sum of %d bytes, %s, is %x, not %x", len(text), name, x, bitwise(text))
			}
		}
	}
}

// P2.2: rows, at each place of one text.
func TestSumPartedAtEachPlace(t *testing.T) {
	c := New()
	text := []byte("123456789")
	for i := range len(text) + 1 {
		for j := i; j <= len(text); j++ {
			if x := c.Sum(text[:i], text[i:j], text[j:]); x != 0xcbf43926 {
				t.Errorf("parted at %d and %d the sum is %x", i, j, x)
			}
		}
	}
}

// P2.1: a sum hangs on the order of the rows, and on no sum before it.
func TestSumBeginsAnew(t *testing.T) {
	c := New()
	if c.Sum([]byte("ab"), []byte("cd")) == c.Sum([]byte("cd"), []byte("ab")) {
		t.Error("the order of rows does not matter")
	}
	for range 3 {
		if x := c.Sum([]byte("123456789")); x != 0xcbf43926 {
			t.Errorf("the sum is %x", x)
		}
	}
}

// P2.1: Runs.
func TestRuns(t *testing.T) {
	for name, first := range map[string]func(*Crc){
		"Table":            func(c *Crc) { c.Table() },
		"Sum of no rows":   func(c *Crc) { c.Sum() },
		"Sum of empty row": func(c *Crc) { c.Sum([]byte{}) },
		"Sum":              func(c *Crc) { c.Sum([]byte("a")) },
	} {
		c := New()
		for range 3 {
			if c.Runs() != 0 {
				t.Errorf("%s: Runs is %d before it", name, c.Runs())
			}
		}
		first(c)
		if c.Runs() != 1 {
			t.Errorf("%s: Runs is %d behind it", name, c.Runs())
		}
		for range 100 {
			c.Table()
			c.Sum([]byte("more"))
			c.Sum()
			first(c)
		}
		if c.Runs() != 1 {
			t.Errorf("%s: Runs is %d behind many more", name, c.Runs())
		}
	}
}

// P2.1: "this Crc": what one does is not told by another.
func TestRunsIsOfThisOne(t *testing.T) {
	one, other := New(), New()
	one.Sum([]byte("a"))
	if one.Runs() != 1 || other.Runs() != 0 || New().Runs() != 0 {
		t.Errorf("Runs is %d of one, %d of another", one.Runs(), other.Runs())
	}
	other.Table()
	if one.Runs() != 1 || other.Runs() != 1 {
		t.Errorf("Runs is %d of one, %d of another", one.Runs(), other.Runs())
	}
}

// P2.1: one that New did not make, but that has no table either.
func TestZeroCrc(t *testing.T) {
	var c Crc
	if c.Runs() != 0 || c.Sum([]byte("123456789")) != 0xcbf43926 || c.Runs() != 1 || c.Table() != New().Table() {
		t.Errorf("a zero Crc: %x, Runs %d", c.Sum([]byte("123456789")), c.Runs())
	}
}

// P2.2: a nil Crc.
func TestNilCrc(t *testing.T) {
	var c *Crc
	for range 2 {
		if c.Table() != [256]uint32{} || c.Runs() != 0 {
			t.Error("a nil Crc has a table")
		}
		if c.Sum() != 0 || c.Sum(nil) != 0 || c.Sum([]byte("123456789")) != 0 || c.Sum([]byte{0}, []byte{255}) != 0 || c.Runs() != 0 {
			t.Error("a nil Crc has a sum")
		}
	}
}

// P2.1 and Ways: one table, though many ask at once.
func TestAtOnce(t *testing.T) {
	for range 50 {
		c := New()
		var all sync.WaitGroup
		for i := range 8 {
			all.Go(func() {
				if i%2 == 0 && c.Table()[255] != 0x2d02ef8d {
					t.Error("a table that is not whole")
				}
				if c.Sum([]byte("123456789")) != 0xcbf43926 || c.Runs() != 1 {
					t.Error("another sum, or another Runs")
				}
			})
		}
		all.Wait()
		if c.Runs() != 1 {
			t.Errorf("Runs is %d", c.Runs())
		}
	}
}

// W6 and W7: the table that is answered is a new one.
func TestTableIsNotLent(t *testing.T) {
	c := New()
	one := c.Table()
	for i := range one {
		one[i] = 7
	}
	if c.Table() != New().Table() || c.Sum([]byte("123456789")) != 0xcbf43926 {
		t.Error("the table changed with what was answered")
	}
}

// W6: what is handed in is not changed, nor the room behind it; nor is that room read.
func TestSumChangesNothing(t *testing.T) {
	whole := []byte("123456789 and more")
	before := bytes.Clone(whole)
	rows := [][]byte{whole[:4], whole[4:9], []byte("behind")}
	if x := New().Sum(rows[:2]...); x != 0xcbf43926 {
		t.Errorf("the sum is %x", x)
	}
	if !bytes.Equal(whole, before) || string(rows[0]) != "1234" || string(rows[1]) != "56789" || string(rows[2]) != "behind" {
		t.Error("the rows are changed")
	}
}

func FuzzSum(f *testing.F) {
	f.Add([]byte("123456789"), 4)
	f.Add([]byte{}, 0)
	c := New()
	f.Fuzz(func(t *testing.T, b []byte, at int) {
		at = min(max(at, 0), len(b))
		if x := c.Sum(b[:at], b[at:]); x != bitwise(b) {
			t.Errorf("Sum(%v) is %x, not %x", b, x, bitwise(b))
		}
	})
}
