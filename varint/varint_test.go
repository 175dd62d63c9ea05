package varint

import (
	"bytes"
	"math"
	"math/big"
	"testing"
)

// tails are what may stand behind a number; the first is nothing.
var tails = [][]byte{nil, {}, {0}, {1}, {127}, {128}, {255}, {0, 0}, {128, 0}, {255, 255, 255}, bytes.Repeat([]byte{255}, 20)}

// edges are 0, the last number of each length and the first of the next, those beside them, and the greatest.
func edges() []uint64 {
	all := []uint64{0, 1, 2, 300, math.MaxUint64 - 1, math.MaxUint64}
	for d := 7; d < 64; d += 7 {
		first := uint64(1) << d
		all = append(all, first-2, first-1, first, first+1)
	}
	for d := range 64 {
		all = append(all, uint64(1)<<d, uint64(1)<<d-1)
	}
	return all
}

// spread are numbers of all lengths, from a rule that never changes.
func spread(count int) []uint64 {
	all := make([]uint64, count)
	x := uint64(88172645463325252)
	for i := range all {
		x ^= x << 13
		x ^= x >> 7
		x ^= x << 17
		all[i] = x >> (i % 64)
	}
	return all
}

// lengthOf is how many bytes a number needs, told by its binary digits.
func lengthOf(v uint64) int {
	return max(1, (new(big.Int).SetUint64(v).BitLen()+6)/7)
}

// told reads the promise of Get word for word, with numbers that have no bound.
func told(b []byte) (v uint64, n int, ok bool) {
	for n < len(b) && b[n] >= 128 {
		n++
	}
	if n == len(b) {
		return 0, 0, false
	}
	n++
	sum := new(big.Int)
	for i := n - 1; i >= 0; i-- {
		sum.Lsh(sum, 7)
		sum.Add(sum, big.NewInt(int64(b[i]&127)))
	}
	if !sum.IsUint64() || lengthOf(sum.Uint64()) != n {
		return 0, 0, false
	}
	return sum.Uint64(), n, true
}

func checkGet(t *testing.T, b []byte) {
	t.Helper()
	v, n, ok := Get(b)
	wantV, wantN, want := told(b)
	if v != wantV || n != wantN || ok != want {
		t.Fatalf("Get(%v) is %d, %d, %v, not %d, %d, %v", b, v, n, ok, wantV, wantN, want)
	}
	if ok && !bytes.Equal(Put(v), b[:n]) {
		t.Fatalf("Get(%v) is %d, but Put of it is %v", b, v, Put(v))
	}
}

// P1.1: Put.
func TestPutIsTheBytesTold(t *testing.T) {
	for _, x := range []struct {
		v    uint64
		want []byte
	}{
		{0, []byte{0}},
		{1, []byte{1}},
		{127, []byte{127}},
		{128, []byte{128, 1}},
		{129, []byte{129, 1}},
		{255, []byte{255, 1}},
		{256, []byte{128, 2}},
		{300, []byte{172, 2}},
		{1<<14 - 1, []byte{255, 127}},
		{1 << 14, []byte{128, 128, 1}},
		{1<<21 - 1, []byte{255, 255, 127}},
		{1 << 21, []byte{128, 128, 128, 1}},
		{1<<28 - 1, []byte{255, 255, 255, 127}},
		{1 << 28, []byte{128, 128, 128, 128, 1}},
		{1<<35 - 1, []byte{255, 255, 255, 255, 127}},
		{1 << 35, []byte{128, 128, 128, 128, 128, 1}},
		{1<<42 - 1, []byte{255, 255, 255, 255, 255, 127}},
		{1 << 42, []byte{128, 128, 128, 128, 128, 128, 1}},
		{1<<49 - 1, []byte{255, 255, 255, 255, 255, 255, 127}},
		{1 << 49, []byte{128, 128, 128, 128, 128, 128, 128, 1}},
		{1<<56 - 1, []byte{255, 255, 255, 255, 255, 255, 255, 127}},
		{1 << 56, []byte{128, 128, 128, 128, 128, 128, 128, 128, 1}},
		{1<<63 - 1, []byte{255, 255, 255, 255, 255, 255, 255, 255, 127}},
		{1 << 63, []byte{128, 128, 128, 128, 128, 128, 128, 128, 128, 1}},
		{1<<64 - 1, []byte{255, 255, 255, 255, 255, 255, 255, 255, 255, 1}},
	} {
		if b := Put(x.v); !bytes.Equal(b, x.want) {
			t.Errorf("Put(%d) is %v, not %v", x.v, b, x.want)
		}
	}
}

// P1.1: Put.
func TestPutHasSevenDigitsAByteLowestFirst(t *testing.T) {
	for _, v := range append(edges(), spread(5000)...) {
		b := Put(v)
		if len(b) != lengthOf(v) {
			t.Fatalf("Put(%d) has %d bytes, not %d", v, len(b), lengthOf(v))
		}
		rest := v
		for i, x := range b {
			want := byte(rest & 127)
			if i < len(b)-1 {
				want += 128
			}
			if x != want {
				t.Fatalf("Put(%d) has %d at %d, not %d", v, x, i, want)
			}
			rest >>= 7
		}
	}
}

// P1.1: Get of what is no number.
func TestGetRefuses(t *testing.T) {
	full := bytes.Repeat([]byte{255}, 9)
	low := bytes.Repeat([]byte{128}, 9)
	with := func(b []byte, more ...byte) []byte { return append(bytes.Clone(b), more...) }
	for name, list := range map[string][][]byte{
		"no bytes":  {nil, {}},
		"cut short": {{128}, {255}, {172}, {128, 128}, {255, 255, 255}, full, low, full[:8]},
		"longer than the number needs": {
			{128, 0}, {129, 0}, {255, 0}, {172, 130, 0}, {128, 128, 0}, {255, 255, 255, 0},
			with(full[:8], 0), with(low[:8], 0), with(full, 0), with(low, 0),
			with(low, 128, 0), with(full, 128, 0), with(full, 129, 0), with(low, 129, 0),
		},
		"too great": {
			with(full, 2), with(low, 2), with(full, 3), with(full, 127), with(low, 64),
			with(full, 129), with(low, 128), with(full, 255), with(full, 130, 0),
			with(low, 128, 1), with(full, 255, 1), with(full, 129, 1), bytes.Repeat([]byte{255}, 1000),
		},
	} {
		for _, b := range list {
			if v, n, ok := Get(b); v != 0 || n != 0 || ok {
				t.Errorf("%s: Get(%v) is %d, %d, %v, not 0, 0, false", name, b, v, n, ok)
			}
		}
	}
}

// P1.1: Get of each number cut short, or with noughts above it.
func TestGetRefusesWhatIsNearANumber(t *testing.T) {
	for _, v := range append(edges(), spread(1000)...) {
		b := Put(v)
		for n := range len(b) {
			if got, m, ok := Get(b[:n]); got != 0 || m != 0 || ok {
				t.Fatalf("Get(%v), cut short, is %d, %d, %v", b[:n], got, m, ok)
			}
		}
		long := bytes.Clone(b)
		for range 12 {
			long[len(long)-1] += 128
			long = append(long, 0)
			if got, m, ok := Get(long); got != 0 || m != 0 || ok {
				t.Fatalf("Get(%v), too long, is %d, %d, %v", long, got, m, ok)
			}
		}
	}
}

// P1.1: Get of all that is at most two bytes long, and of all edges of up to four.
func TestGetIsJustWhatPutIs(t *testing.T) {
	checkGet(t, nil)
	for x := range 256 {
		checkGet(t, []byte{byte(x)})
		for y := range 256 {
			checkGet(t, []byte{byte(x), byte(y)})
		}
	}
	some := []byte{0, 1, 2, 63, 64, 126, 127, 128, 129, 254, 255}
	for i := range 11 * 11 * 11 * 11 {
		b := []byte{some[i%11], some[i/11%11], some[i/121%11], some[i/1331]}
		checkGet(t, b[:3])
		checkGet(t, b)
	}
}

// P1.1: Get where 64 digits end: every last byte behind each count of bytes that are not the last.
func TestGetAtTheGreatestLengths(t *testing.T) {
	for _, fill := range []byte{128, 129, 170, 192, 254, 255} {
		for length := range 14 {
			for last := range 256 {
				b := append(bytes.Repeat([]byte{fill}, length), byte(last))
				checkGet(t, b)
				checkGet(t, append(b, 0))
				checkGet(t, append(b, 1))
			}
		}
	}
}

// P1.2.
func TestGetOfPutIsTheNumber(t *testing.T) {
	for _, v := range append(edges(), spread(5000)...) {
		b := Put(v)
		for _, tail := range tails {
			got, n, ok := Get(append(bytes.Clone(b), tail...))
			if got != v || n != len(b) || !ok {
				t.Fatalf("Get of Put(%d) and %v is %d, %d, %v", v, tail, got, n, ok)
			}
		}
	}
}

// P1.2, with another number behind it.
func TestGetOneAfterTheOther(t *testing.T) {
	all := append(edges(), spread(1000)...)
	var b []byte
	for _, v := range all {
		b = append(b, Put(v)...)
	}
	for i, v := range all {
		got, n, ok := Get(b)
		if got != v || !ok {
			t.Fatalf("number %d is %d, %v, not %d", i, got, ok, v)
		}
		b = b[n:]
	}
	if len(b) != 0 {
		t.Errorf("%d bytes are left", len(b))
	}
}

// P1.1: Four.
func TestFourIsTheLowestFirst(t *testing.T) {
	for _, x := range []struct {
		v    uint32
		want []byte
	}{
		{0, []byte{0, 0, 0, 0}},
		{1, []byte{1, 0, 0, 0}},
		{255, []byte{255, 0, 0, 0}},
		{1 << 8, []byte{0, 1, 0, 0}},
		{1<<16 - 1, []byte{255, 255, 0, 0}},
		{1 << 16, []byte{0, 0, 1, 0}},
		{1<<24 - 1, []byte{255, 255, 255, 0}},
		{1 << 24, []byte{0, 0, 0, 1}},
		{0x01020304, []byte{4, 3, 2, 1}},
		{0xfedcba98, []byte{0x98, 0xba, 0xdc, 0xfe}},
		{1 << 31, []byte{0, 0, 0, 128}},
		{1<<32 - 1, []byte{255, 255, 255, 255}},
	} {
		if b := Four(x.v); !bytes.Equal(b, x.want) {
			t.Errorf("Four(%d) is %v, not %v", x.v, b, x.want)
		}
	}
}

// W6 and W7: what is answered is new memory, spare room too.
func TestAnswersShareNothing(t *testing.T) {
	for name, call := range map[string]func() []byte{
		"Put(0)":    func() []byte { return Put(0) },
		"Put(300)":  func() []byte { return Put(300) },
		"Put(most)": func() []byte { return Put(math.MaxUint64) },
		"Four":      func() []byte { return Four(0x01020304) },
	} {
		one, other := call(), call()
		want := bytes.Clone(one[:cap(one)])
		for i := range other[:cap(other)] {
			other[:cap(other)][i] ^= 255
		}
		if !bytes.Equal(one[:cap(one)], want) || !bytes.Equal(call(), want[:len(one)]) {
			t.Errorf("%s: one answer changed with another", name)
		}
	}
}

// W6: what is handed in is not changed, nor the room behind it; nor is that room read.
func TestGetChangesNothing(t *testing.T) {
	for _, whole := range [][]byte{{172, 2, 7, 7}, {128, 128, 0, 1}, {255, 255, 255, 1}, {128, 0, 5, 5}} {
		before := bytes.Clone(whole)
		for n := range len(whole) + 1 {
			v, m, ok := Get(whole[:n])
			wantV, wantM, want := Get(bytes.Clone(before[:n:n]))
			if v != wantV || m != wantM || ok != want {
				t.Errorf("Get(%v) hangs on what is behind its end", before[:n])
			}
			if !bytes.Equal(whole, before) {
				t.Errorf("Get(%v) made %v of %v", before[:n], whole, before)
			}
		}
	}
}

func FuzzGet(f *testing.F) {
	for _, b := range [][]byte{nil, {0}, {172, 2}, {128, 0}, {255, 255}, bytes.Repeat([]byte{255}, 10)} {
		f.Add(b)
	}
	f.Fuzz(func(t *testing.T, b []byte) { checkGet(t, b) })
}
