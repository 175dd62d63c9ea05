package lf

import (
	"bytes"
	"iter"
	"math"
	"slices"
	"testing"
	"time"

	"whorl/api"
	"whorl/bwt"
	"whorl/rank"
)

// rows hands over all rows of n numbers, each least to greatest. Each is new, so that none is left out nor comes again where
// one that was handed in is changed.
func rows(n, least, greatest int) iter.Seq[[]int] {
	return func(yield func([]int) bool) {
		row := slices.Repeat([]int{least}, n)
		for {
			if !yield(slices.Clone(row)) {
				return
			}
			at := n - 1
			for at >= 0 && row[at] == greatest {
				row[at] = least
				at--
			}
			if at < 0 {
				return
			}
			row[at]++
		}
	}
}

// texts hands over all texts of n of these letters, each of them new.
func texts(n int, letters string) iter.Seq[[]byte] {
	return func(yield func([]byte) bool) {
		for row := range rows(n, 0, len(letters)-1) {
			text := make([]byte, n)
			for i, v := range row {
				text[i] = letters[v]
			}
			if !yield(text) {
				return
			}
		}
	}
}

// orders are all orders of n numbers.
func orders(n int) [][]int {
	if n == 0 {
		return [][]int{{}}
	}
	var all [][]int
	for _, fewer := range orders(n - 1) {
		for at := range n {
			all = append(all, slices.Insert(slices.Clone(fewer), at, n-1))
		}
	}
	return all
}

// rising is the numbers from 0 on, n of them.
func rising(n int) []int {
	row := make([]int, n)
	for i := range row {
		row[i] = i
	}
	return row
}

// falling is the numbers from n - 1 down to 0.
func falling(n int) []int {
	row := rising(n)
	slices.Reverse(row)
	return row
}

// striding is the numbers 0 to n - 1, each a step further on than the one ahead of it, round and round; step and n have no
// divisor together.
func striding(n, from, step int) []int {
	row := make([]int, n)
	for i := range row {
		row[i] = (from + i*step) % n
	}
	return row
}

// onward is the order where each of n places leads to the next one, and the last one to the first: one cycle alone.
func onward(n int) []int {
	return striding(n, 1, 1)
}

// swapped is a row with what stands at two places changed for each other.
func swapped[V any](row []V, i, j int) []V {
	other := slices.Clone(row)
	other[i], other[j] = other[j], other[i]
	return other
}

// with is a row with one place's changed.
func with[V any](row []V, at int, v V) []V {
	other := slices.Clone(row)
	other[at] = v
	return other
}

// draw hands over numbers of no plain rule, 0 to below - 1, the same ones each time.
func draw() func(below int) int {
	state := uint64(22)
	return func(below int) int {
		state = state*6364136223846793005 + 1442695040888963407
		return int(state>>33) % below
	}
}

// drawnOrder is an order of n numbers of no plain rule.
func drawnOrder(number func(below int) int, n int) []int {
	row := rising(n)
	for i := n - 1; i > 0; i-- {
		j := number(i + 1)
		row[i], row[j] = row[j], row[i]
	}
	return row
}

// drawnRing is an order of n numbers of no plain rule that is one cycle alone.
func drawnRing(number func(below int) int, n int) []int {
	row := make([]int, n)
	ring := drawnOrder(number, n)
	for i, place := range ring {
		row[place] = ring[(i+1)%n]
	}
	return row
}

// drawnRings is an order of n numbers of no plain rule, in cycles of so many places each, the last one of what is left.
func drawnRings(number func(below int) int, n, long int) []int {
	row := make([]int, n)
	for ring := range slices.Chunk(drawnOrder(number, n), long) {
		for i, place := range ring {
			row[place] = ring[(i+1)%len(ring)]
		}
	}
	return row
}

// drawnText is n bytes of no plain rule, each one of so many from a letter on.
func drawnText(number func(below int) int, n int, from byte, below int) []byte {
	var text []byte
	for range n {
		text = append(text, from+byte(number(below)))
	}
	return text
}

// repeated is n bytes of a word that comes again and again, the last time cut short or not.
func repeated(word string, n int) []byte {
	return bytes.Repeat([]byte(word), n/len(word)+1)[:n]
}

// ofInWords is Of by its words: each place counted by itself.
func ofInWords(l []byte) []int {
	var row []int
	for i, own := range l {
		less, sameAhead := 0, 0
		for j, b := range l {
			if b < own {
				less++
			}
			if b == own && j < i {
				sameAhead++
			}
		}
		row = append(row, less+sameAhead)
	}
	return row
}

// ofByCounts is Of of long rows: the counts of all bytes that are less are added up for each place.
func ofByCounts(l []byte) []int {
	var inAll, ahead [bytesInAll]int
	for _, b := range l {
		inAll[b]++
	}
	row := make([]int, len(l))
	for i, b := range l {
		row[i] = ahead[b]
		for _, n := range inAll[:b] {
			row[i] += n
		}
		ahead[b]++
	}
	return row
}

// isOrder tells whether each number is there once, by a search for each.
func isOrder(p []int) bool {
	for v := range len(p) {
		if !slices.Contains(p, v) {
			return false
		}
	}
	return true
}

// cycleInWords is a place, then where it leads, and so on till it comes round.
func cycleInWords(p []int, from int) []int {
	cycle := []int{from}
	for place := p[from]; place != from; place = p[place] {
		cycle = append(cycle, place)
	}
	return cycle
}

// cyclesInWords is Cycles of an order by its words: the cycles of all places that are the least ones of theirs.
func cyclesInWords(p []int) [][]int {
	var cycles [][]int
	for place := range p {
		if cycle := cycleInWords(p, place); slices.Min(cycle) == place {
			cycles = append(cycles, cycle)
		}
	}
	return cycles
}

// equal tells whether two lists of lists are the same.
func equal(a, b [][]int) bool {
	return slices.EqualFunc(a, b, slices.Equal[[]int])
}

// of holds Of against its words, and against rank's Is.
func of(t *testing.T, l []byte) []int {
	t.Helper()
	got := Of(l)
	if want := ofInWords(l); !slices.Equal(got, want) {
		t.Fatalf("Of(%q) is %v, not %v", l, got, want)
	}
	if !rank.Is(got) {
		t.Fatalf("Of(%q) is %v, which is no order", l, got)
	}
	return got
}

// cyclesAre holds Cycles against what it is to be.
func cyclesAre(t *testing.T, p []int, want [][]int) {
	t.Helper()
	if got, ok := Cycles(p); !ok || !equal(got, want) {
		t.Fatalf("Cycles(%v) is %v, %v, not %v", p, got, ok, want)
	}
}

// cycles holds Cycles of an order against its words.
func cycles(t *testing.T, p []int) {
	t.Helper()
	cyclesAre(t, p, cyclesInWords(p))
}

// noCycles holds Cycles against nil and false.
func noCycles(t *testing.T, p []int) {
	t.Helper()
	if got, ok := Cycles(p); ok || got != nil {
		t.Fatalf("Cycles is %d lists, %v, not nil: %v", len(got), ok, p[:min(len(p), 20)])
	}
}

// cyclesOrNot holds Cycles of any row against its words.
func cyclesOrNot(t *testing.T, p []int) {
	t.Helper()
	if isOrder(p) {
		cycles(t, p)
	} else {
		noCycles(t, p)
	}
}

// areCycles tells of lists whether they are an order's cycles, one place at a time: each begins with its least one, goes on
// where the one ahead leads to, and comes round; the first ones rise; and all places stand in just one.
func areCycles(p []int, lists [][]int) bool {
	often := make([]int, len(p))
	for i, list := range lists {
		if len(list) == 0 || i > 0 && list[0] <= lists[i-1][0] {
			return false
		}
		for j, place := range list {
			if place < list[0] || place >= len(p) || p[place] != list[(j+1)%len(list)] {
				return false
			}
			often[place]++
		}
	}
	return !slices.ContainsFunc(often, func(n int) bool { return n != 1 })
}

// longCycles holds Cycles of an order of many places against its words.
func longCycles(t *testing.T, p []int, many int) {
	t.Helper()
	got, ok := Cycles(p)
	if !ok || !areCycles(p, got) {
		t.Fatalf("Cycles of %d places are %d, %v, and not what they are to be", len(p), len(got), ok)
	}
	if many >= 0 && len(got) != many {
		t.Fatalf("Cycles of %d places are %d, not %d", len(p), len(got), many)
	}
}

// TestAreCycles holds what tells of long answers against the words.
func TestAreCycles(t *testing.T) {
	for _, p := range orders(5) {
		want := cyclesInWords(p)
		if !areCycles(p, want) {
			t.Fatalf("%v, %v", p, want)
		}
		for i := range want {
			wrong := slices.Clone(want)
			wrong[i] = slices.Concat(want[i], want[i])
			twice := slices.Insert(slices.Clone(want), i, want[i])
			if areCycles(p, wrong) || areCycles(p, twice) || areCycles(p, slices.Delete(slices.Clone(want), i, i+1)) {
				t.Fatalf("%v, %v, %d", p, want, i)
			}
			if long := want[i]; len(long) > 1 {
				wrong[i] = slices.Concat(long[1:], long[:1])
				if areCycles(p, wrong) {
					t.Fatalf("%v, %v", p, wrong)
				}
				wrong[i] = long[1:]
				if areCycles(p, wrong) {
					t.Fatalf("%v, %v", p, wrong)
				}
			}
			if i > 0 && areCycles(p, swapped(want, i, i-1)) {
				t.Fatalf("%v, %v, %d", p, want, i)
			}
		}
	}
}

// farNumbers are numbers that are no place of any row here, the least and the greatest ones among them, and such as would be
// one by their lower digits alone.
func farNumbers() []int {
	return []int{
		math.MinInt, math.MinInt + 1, math.MinInt32, -1 << 32, 1 - 1<<32, -1 << 16, -256, -2, -1,
		1 << 31, math.MaxUint32, 1 << 32, 1<<32 + 1, 1<<32 + 2, math.MaxInt - 1, math.MaxInt,
	}
}

// P22.1: the chapter's example.
func TestExample(t *testing.T) {
	p := Of([]byte("bab"))
	if !slices.Equal(p, []int{1, 0, 2}) {
		t.Fatalf("Of is %v", p)
	}
	cyclesAre(t, p, [][]int{{0, 1}, {2}})
}

// P22.1: by hand.
func TestSomeRows(t *testing.T) {
	for l, want := range map[string][]int{
		"annbaa":       {0, 4, 5, 3, 1, 2},
		"ipssmpissii":  {0, 5, 7, 8, 4, 6, 1, 9, 10, 2, 3},
		"cba":          {2, 1, 0},
		"abab":         {0, 2, 1, 3},
		"\xff\x00\xff": {1, 0, 2},
		"\x7f\x80\x7f": {0, 2, 1},
		"\x01\x00":     {1, 0},
	} {
		if got := of(t, []byte(l)); !slices.Equal(got, want) {
			t.Errorf("Of(%q) is %v, not %v", l, got, want)
		}
	}
	cyclesAre(t, []int{0, 4, 5, 3, 1, 2}, [][]int{{0}, {1, 4}, {2, 5}, {3}})
	cyclesAre(t, []int{1, 2, 0}, [][]int{{0, 1, 2}})
	cyclesAre(t, []int{2, 0, 1}, [][]int{{0, 2, 1}})
	cyclesAre(t, []int{3, 2, 1, 0}, [][]int{{0, 3}, {1, 2}})
	cyclesAre(t, []int{0, 3, 2, 4, 1}, [][]int{{0}, {1, 3, 4}, {2}})
	cyclesAre(t, []int{4, 0, 3, 2, 1}, [][]int{{0, 4, 1}, {2, 3}})
	noCycles(t, []int{0, 0})
	noCycles(t, []int{1, 2})
	noCycles(t, []int{-1, 0})
	noCycles(t, []int{1})
}

// P22.1, P22.2: all short rows of a few letters; Cycles of what Of answers.
func TestAllShortTexts(t *testing.T) {
	for letters, longest := range map[string]int{"ab": 12, "abc": 8, "abcd": 6, "\x00\xff": 10, "\x7f\x80": 9, "\x00\x01\x7f\x80\xff": 5, "abcdefg": 4} {
		for n := range longest + 1 {
			for l := range texts(n, letters) {
				cycles(t, of(t, l))
			}
		}
	}
}

// P22.1: all orders of few places.
func TestAllOrders(t *testing.T) {
	for n := range 9 {
		for _, p := range orders(n) {
			cycles(t, p)
		}
	}
}

// P22.1, W3: all short rows of numbers, those that are no order among them.
func TestAllShortRows(t *testing.T) {
	held := 0
	for n := range 7 {
		for p := range rows(n, -1, n) {
			if isOrder(p) {
				held++
			}
			cyclesOrNot(t, p)
		}
	}
	if held != 1+1+2+6+24+120+720 {
		t.Errorf("%d rows are orders", held)
	}
}

// P22.1, W3: all short rows of which a number may be any of the far ones.
func TestAllShortRowsOfFarNumbers(t *testing.T) {
	numbers := append(farNumbers(), 0, 1, 2, 3)
	for n := range 4 {
		for row := range rows(n, 0, len(numbers)-1) {
			var p []int
			for _, v := range row {
				p = append(p, numbers[v])
			}
			cyclesOrNot(t, p)
		}
	}
}

// P22.1, W3: orders with one number in another's place: twice, no place, less than nothing, the least and the greatest.
func TestNoOrder(t *testing.T) {
	number := draw()
	for _, n := range []int{1, 2, 3, 5, 16, 100} {
		for _, p := range [][]int{rising(n), falling(n), onward(n), drawnOrder(number, n), drawnRing(number, n)} {
			cycles(t, p)
			for at, v := range p {
				for _, other := range append(farNumbers(), n, n+1, 2*n, -n, -n-1, v+n, v-n, v+1<<32, v-1<<32, v+1<<8, -v-1) {
					if other != v {
						noCycles(t, with(p, at, other))
					}
				}
				for _, other := range p {
					if other != v {
						noCycles(t, with(p, at, other))
					}
				}
			}
			noCycles(t, append(p[:n:n], 0))
			noCycles(t, append(p[:n:n], n+1))
			noCycles(t, append(p[:n:n], -1))
			noCycles(t, append([]int{n + 1}, p...))
			noCycles(t, append(p[:n:n], p...))
			if v := slices.Max(p); n > 1 && p[0] != v {
				noCycles(t, p[1:])
			}
		}
	}
}

// P22.1, W5: of nothing, nil or empty, Of is nothing, and so are Cycles, and it is an order.
func TestNothing(t *testing.T) {
	for _, l := range [][]byte{nil, {}, make([]byte, 0, 4), []byte("ab")[:0], []byte("ab")[2:]} {
		if got := Of(l); len(got) != 0 {
			t.Errorf("Of nothing is %v", got)
		}
	}
	for _, p := range [][]int{nil, {}, make([]int, 0, 4), []int{0, 0}[:0], []int{-1, 1}[2:]} {
		if got, ok := Cycles(p); !ok || len(got) != 0 {
			t.Errorf("Cycles of nothing are %v, %v", got, ok)
		}
	}
}

// P22.1: one byte, and two, whichever they are; one place, and whatever else may stand there.
func TestOneAndTwo(t *testing.T) {
	for one := range bytesInAll {
		cycles(t, of(t, []byte{byte(one)}))
		for other := range bytesInAll {
			cycles(t, of(t, []byte{byte(one), byte(other)}))
			cycles(t, of(t, []byte{byte(one), byte(other), byte(one)}))
		}
	}
	cyclesAre(t, []int{0}, [][]int{{0}})
	cyclesAre(t, []int{0, 1}, [][]int{{0}, {1}})
	cyclesAre(t, []int{1, 0}, [][]int{{0, 1}})
	noCycles(t, []int{1})
	for _, v := range append(farNumbers(), 2, 3, 256) {
		noCycles(t, []int{v})
		noCycles(t, []int{0, v})
		noCycles(t, []int{v, 0})
		noCycles(t, []int{v, v})
	}
}

// P22.1: of one byte again and again each place is where it was, and a cycle of its own.
func TestOneByteAgain(t *testing.T) {
	for n := range 70 {
		var alone [][]int
		for i := range n {
			alone = append(alone, []int{i})
		}
		for _, b := range []byte{0, 1, 'a', 0x7f, 0x80, 0xff} {
			got := of(t, bytes.Repeat([]byte{b}, n))
			if !slices.Equal(got, rising(n)) {
				t.Fatalf("Of %d bytes that are alike is %v", n, got)
			}
			cyclesAre(t, got, alone)
		}
	}
}

// P22.1: no byte twice: each place is as many as are less.
func TestNoByteTwice(t *testing.T) {
	number := draw()
	for n := range bytesInAll + 1 {
		for _, order := range [][]int{rising(n), falling(n), drawnOrder(number, n)} {
			least := make([]byte, n)
			greatest := make([]byte, n)
			for i, v := range order {
				least[i] = byte(v)
				greatest[i] = byte(bytesInAll - n + v)
			}
			for _, l := range [][]byte{least, greatest} {
				if got := of(t, l); !slices.Equal(got, order) {
					t.Fatalf("Of(%q) is %v, not %v", l, got, order)
				}
			}
			cycles(t, order)
		}
	}
}

// P22.1: all bytes there are, as they come, the other way, many times over, and two and two of them.
func TestAllBytes(t *testing.T) {
	var up, twos []byte
	for b := range bytesInAll {
		up = append(up, byte(b))
		twos = append(twos, byte(b), byte(b))
	}
	down := slices.Clone(up)
	slices.Reverse(down)
	for _, l := range [][]byte{
		up, down, twos, slices.Concat(up, down), slices.Concat(down, up), slices.Concat(up, up, up), slices.Concat(twos, down),
		drawnText(draw(), 3000, 0, bytesInAll),
	} {
		cycles(t, of(t, l))
	}
}

// P22.1: each byte next to each other one, at the least and the greatest ones: bytes are compared without a sign.
func TestNoSigns(t *testing.T) {
	for one := range bytesInAll {
		for other := range one {
			got := Of([]byte{byte(one), byte(other)})
			if !slices.Equal(got, []int{1, 0}) {
				t.Fatalf("Of %d, %d is %v", one, other, got)
			}
		}
	}
}

// P22.1: an order that is one cycle alone, and one where each place leads to itself, or to another one that leads back.
func TestOneCycleAndMany(t *testing.T) {
	number := draw()
	for n := 1; n < 80; n++ {
		var alone, twos [][]int
		for i := range n {
			alone = append(alone, []int{i})
			if j := n - 1 - i; i < j {
				twos = append(twos, []int{i, j})
			} else if i == j {
				twos = append(twos, []int{i})
			}
		}
		cyclesAre(t, rising(n), alone)
		cyclesAre(t, falling(n), twos)
		cyclesAre(t, onward(n), [][]int{rising(n)})
		if n > 1 {
			cyclesAre(t, striding(n, n-1, 1), [][]int{append([]int{0}, falling(n)[:n-1]...)})
		}
		ring := drawnRing(number, n)
		cyclesAre(t, ring, [][]int{cycleInWords(ring, 0)})
		// All of it in one cycle, but for one place.
		rest := drawnRing(number, n)
		own := number(n)
		for i, v := range rest {
			if v == own {
				rest[i] = rest[own]
			}
		}
		rest[own] = own
		cycles(t, rest)
	}
}

// P22.1: drawn orders, and such as are rings of so many places each.
func TestDrawnOrders(t *testing.T) {
	number := draw()
	for range 2000 {
		n := 1 + number(60)
		cycles(t, drawnOrder(number, n))
		cycles(t, drawnRings(number, n, 1+number(n)))
		cycles(t, swapped(drawnRing(number, n), number(n), number(n)))
	}
}

// P22.1, P22.2: drawn bytes of few letters and of many.
func TestDrawnTexts(t *testing.T) {
	number := draw()
	for range 2000 {
		below := 1 + number(bytesInAll)
		if number(2) == 0 {
			below = 1 + number(4)
		}
		cycles(t, of(t, drawnText(number, number(80), byte(number(bytesInAll)), below)))
	}
}

// longTexts are rows of n bytes, of all kinds.
func longTexts(n int) [][]byte {
	number := draw()
	last := repeated("b", n)
	last[n-1] = 'a'
	return [][]byte{
		repeated("a", n), repeated("\x00", n), repeated("\xff", n), repeated("ba", n), repeated("aabaabab", n), last,
		repeated(string(drawnText(number, 1000, 0, bytesInAll)), n),
		drawnText(number, n, 'a', 2), drawnText(number, n, 'a', 26), drawnText(number, n, 0, bytesInAll),
	}
}

// P22.1, P22.2: rows of many bytes, of more than MaxText, too: the chapter names no bound.
func TestManyBytes(t *testing.T) {
	for _, n := range []int{3000, api.MaxText, api.MaxText + 1, 1 << 20} {
		for which, l := range longTexts(n) {
			got := Of(l)
			if !slices.Equal(got, ofByCounts(l)) || !rank.Is(got) {
				t.Fatalf("Of text %d, of %d bytes, is wrong", which, n)
			}
			longCycles(t, got, -1)
		}
	}
}

// TestOfByCounts holds what tells of long rows against the words.
func TestOfByCounts(t *testing.T) {
	for _, l := range longTexts(1500) {
		if !slices.Equal(ofByCounts(l), ofInWords(l)) {
			t.Fatalf("%.99q", l)
		}
	}
}

// P22.1: orders of many places, of more than 2^20, too.
func TestManyPlaces(t *testing.T) {
	number := draw()
	for _, n := range []int{5000, api.MaxText, 1<<20 + 1} {
		longCycles(t, rising(n), n)
		longCycles(t, falling(n), (n+1)/2)
		longCycles(t, onward(n), 1)
		longCycles(t, striding(n, n-1, 1), 1)
		longCycles(t, drawnRing(number, n), 1)
		longCycles(t, drawnRings(number, n, 7), (n+6)/7)
		longCycles(t, drawnRings(number, n, 1000), (n+999)/1000)
		longCycles(t, drawnRings(number, n, n-1), 2)
		longCycles(t, drawnOrder(number, n), -1)
	}
}

// P22.1, W3: rows of many numbers that are no order.
func TestManyPlacesRefused(t *testing.T) {
	number := draw()
	for _, n := range []int{5000, api.MaxText} {
		for _, p := range [][]int{rising(n), onward(n), drawnOrder(number, n)} {
			for _, at := range []int{0, 1, n / 2, n - 1} {
				for _, v := range append(farNumbers(), p[(at+1)%n], p[(at+n-1)%n], n, n+1) {
					noCycles(t, with(p, at, v))
				}
			}
			noCycles(t, append(p[:n:n], n+1))
			noCycles(t, append(p[:n:n], p[0]))
		}
		noCycles(t, make([]int, n))
		noCycles(t, slices.Repeat([]int{n - 1}, n))
		noCycles(t, rising(n)[1:])
		noCycles(t, falling(n)[1:n-1])
	}
}

// P22.1: what bwt turns a text to, with a byte in the row of the whole text that is less than all others, is one cycle, and
// by it the text is read from its end.
func TestOneCycleOfATurn(t *testing.T) {
	for _, s := range []string{"", "a", "banana", "mississippi", "abababab", string(repeated("aab", 500)), string(drawnText(draw(), 2000, 1, 255))} {
		l, at, e := bwt.Turn([]byte(s))
		if e != api.OK {
			t.Fatal("there is no turn to hold it against")
		}
		column := slices.Insert(l, at, 0)
		p := of(t, column)
		got, ok := Cycles(p)
		if !ok || len(got) != 1 {
			t.Fatalf("%d cycles of %.99q, %v", len(got), s, ok)
		}
		var text []byte
		for _, place := range got[0][:len(s)] {
			text = append(text, column[place])
		}
		slices.Reverse(text)
		if string(text) != s {
			t.Fatalf("%.99q is read as %.99q", s, text)
		}
	}
}

// Rows of MaxText bytes and places take well under a second: the shortest of some calls, as the machine may be busy with
// others.
func TestManyBytesSoon(t *testing.T) {
	const wellUnder = time.Second / 2
	soon := func(call func()) bool {
		for range 5 {
			began := time.Now()
			call()
			if time.Since(began) < wellUnder {
				return true
			}
		}
		return false
	}
	number := draw()
	for which, l := range longTexts(api.MaxText) {
		p := Of(l)
		if !soon(func() { Of(l) }) || !soon(func() { Cycles(p) }) {
			t.Errorf("text %d takes %v and more", which, wellUnder)
		}
	}
	n := api.MaxText
	for which, p := range [][]int{rising(n), falling(n), onward(n), striding(n, n-1, 1), drawnRing(number, n), drawnOrder(number, n)} {
		if !soon(func() { Cycles(p) }) {
			t.Errorf("order %d takes %v and more", which, wellUnder)
		}
	}
}

// textCases are rows whose memory is held against that of answers.
func textCases() []string {
	return []string{
		"", "a", "bab", "annbaa", "aaaa", "ipssmpissii", "\x00\xff\x00", string(repeated("aab", 64)), string(repeated("a", 33)),
		string(drawnText(draw(), 100, 0, bytesInAll)),
	}
}

// orderCases are orders whose memory is held against that of answers.
func orderCases() [][]int {
	number := draw()
	return [][]int{
		{}, {0}, {1, 0}, {0, 1}, {1, 0, 2}, {0, 4, 5, 3, 1, 2}, {2, 3, 4, 1, 0}, onward(4), onward(33), rising(5), rising(40), falling(9),
		striding(33, 5, 7), drawnOrder(number, 50), drawnRings(number, 50, 4), drawnRings(number, 64, 8), drawnRing(number, 64),
	}
}

// noOrderCases are rows that are no order.
func noOrderCases() [][]int {
	return [][]int{{1}, {-1}, {0, 0}, {0, 2}, {1, 2, 1}, {0, -1, 1}, {0, 1, 2, 4, 3, 4}, {math.MinInt, math.MaxInt}, make([]int, 30)}
}

// roomy is a list with so much room behind its end.
func roomy[V any](list []V, spare int) []V {
	return append(make([]V, 0, len(list)+spare), list...)
}

// marked lays one thing all over a list and the room behind it.
func marked[V any](list []V, mark V) {
	list = list[:cap(list)]
	for i := range list {
		list[i] = mark
	}
}

// apart tells whether lists that were each marked with their own number have kept it, the room behind them too.
func apart(lists [][]int) bool {
	for i, list := range lists {
		if slices.ContainsFunc(list[:cap(list)], func(v int) bool { return v != -1-i }) {
			return false
		}
	}
	return true
}

// P22.2, W6: no two answers share memory, nor the room behind them, nor do two cycles of one answer or what is handed in; and
// what it was written over with is not told of later.
func TestAnswersShareNothing(t *testing.T) {
	for _, s := range textCases() {
		for _, spare := range []int{0, 1, 16} {
			l := roomy([]byte(s), spare)
			lists := [][]int{Of(l), Of(l), Of(l)}
			for i, list := range lists {
				marked(list, -1-i)
			}
			if !apart(lists) || string(l) != s {
				t.Errorf("two answers of %q share memory", s)
			}
			of(t, l)
		}
	}
	for _, p := range orderCases() {
		for _, spare := range []int{0, 1, 16} {
			in := roomy(p, spare)
			one, _ := Cycles(in)
			two, _ := Cycles(in)
			lists := slices.Concat(one, two, [][]int{in})
			for i, list := range lists {
				marked(list, -1-i)
			}
			if !apart(lists) {
				t.Errorf("two lists of the answers of %v share memory", p)
			}
			// The lists of lists are two, too.
			marked(one, []int{-7})
			if !equal(two, lists[len(one):len(one)+len(two)]) {
				t.Errorf("two answers of %v share memory", p)
			}
			cycles(t, p)
			cycles(t, roomy(p, spare))
		}
	}
}

// P22.2, W6: what is put behind a cycle's end stands in none of the others.
func TestOneCycleGrows(t *testing.T) {
	for _, p := range orderCases() {
		got, _ := Cycles(p)
		grown := slices.Clone(got)
		for i, cycle := range got {
			grown[i] = append(append(cycle, -1, -2), cycle...)
		}
		if !equal(got, cyclesInWords(p)) {
			t.Errorf("cycles of %v have become %v", p, got)
		}
		for i, cycle := range cyclesInWords(p) {
			if !slices.Equal(grown[i], slices.Concat(cycle, []int{-1, -2}, cycle)) {
				t.Errorf("cycle %d of %v has grown to %v", i, p, grown[i])
			}
		}
	}
}

// P22.2, W6: one cycle of an answer changed, the others stay.
func TestOneCycleChanged(t *testing.T) {
	for _, p := range orderCases() {
		want := cyclesInWords(p)
		for changed := range want {
			got, _ := Cycles(p)
			marked(got[changed], -1)
			for i, cycle := range got {
				if i != changed && !slices.Equal(cycle, want[i]) {
					t.Errorf("cycle %d of %v has become %v with %d", i, p, cycle, changed)
				}
			}
		}
	}
}

// around is a list with something ahead of it and some behind it, and the list in the midst of that.
func around[V any](list []V, by V) (room, midst []V) {
	room = slices.Concat([]V{by, by}, list, []V{by, by, by, by})
	return room, room[2 : 2+len(list)]
}

// P22.2, W6: neither what is handed in nor the room around it is changed, and that room is not told of.
func TestWhatIsHandedInStays(t *testing.T) {
	for _, by := range []byte{0, 1, 'a', 'b', 0x80, 0xff} {
		for _, s := range textCases() {
			room, midst := around([]byte(s), by)
			was := slices.Clone(room)
			of(t, midst)
			if !bytes.Equal(room, was) {
				t.Errorf("%q has become %q", was, room)
			}
		}
	}
	for _, by := range []int{-7, -1, 0, 1, 2, 9, math.MinInt, math.MaxInt} {
		for _, p := range slices.Concat(orderCases(), noOrderCases()) {
			room, midst := around(p, by)
			was := slices.Clone(room)
			cyclesOrNot(t, midst)
			if !slices.Equal(room, was) {
				t.Errorf("%v has become %v", was, room)
			}
		}
	}
}

// P22.1: what is missing stands in the room behind the end, or ahead of it, and is none of it.
func TestRoomBehind(t *testing.T) {
	if got := Of([]byte("babaaa")[:3]); !slices.Equal(got, []int{1, 0, 2}) {
		t.Errorf("Of with room behind is %v", got)
	}
	cyclesAre(t, []int{1, 0, 3, 2}[:2], [][]int{{0, 1}})
	cyclesAre(t, []int{-1, 1, 1, 0}[2:], [][]int{{0, 1}})
	noCycles(t, []int{2, 0, 1}[:2])
	noCycles(t, []int{0, 0, 1}[:2])
	noCycles(t, []int{0, 1, 1}[1:])
}

// P22.2, W2, W6, W7: what was handed in is not kept: written over, with the room behind it, it changes no answer, be it one
// that was given or a later one.
func TestNothingIsKept(t *testing.T) {
	for _, s := range textCases() {
		l := roomy([]byte(s), 5)
		got := Of(l)
		marked(l, 0xfe)
		if !slices.Equal(got, ofInWords([]byte(s))) {
			t.Errorf("Of(%q) has become %v with it", s, got)
		}
		of(t, l)
		copy(l, s)
		of(t, l)
	}
	for _, p := range orderCases() {
		in := roomy(p, 5)
		got, _ := Cycles(in)
		marked(in, -1)
		if !equal(got, cyclesInWords(p)) {
			t.Errorf("cycles of %v have become %v with it", p, got)
		}
		if len(in) > 0 {
			noCycles(t, in)
		}
		copy(in, p)
		cycles(t, in)
	}
}

// P22.2, W2, W7: what is answered stays, whatever is called later, and is answered again.
func TestAnswersStay(t *testing.T) {
	for _, s := range textCases() {
		got := Of([]byte(s))
		for _, later := range textCases() {
			Cycles(Of([]byte(later)))
		}
		if !slices.Equal(got, ofInWords([]byte(s))) {
			t.Errorf("Of(%q) has become %v", s, got)
		}
		of(t, []byte(s))
	}
	for _, p := range orderCases() {
		got, _ := Cycles(p)
		for _, later := range slices.Concat(orderCases(), noOrderCases()) {
			Cycles(later)
		}
		if !equal(got, cyclesInWords(p)) {
			t.Errorf("cycles of %v have become %v", p, got)
		}
		cycles(t, p)
	}
}

// FuzzLf takes its bytes by some of their lower digits, too, and its numbers from bytes: 254 and 255 stand for the least and
// the greatest number, and those from 250 on for numbers below 0.
func FuzzLf(f *testing.F) {
	f.Add([]byte("bab"), byte(0xff))
	f.Add([]byte{1, 0, 2}, byte(3))
	f.Add([]byte{}, byte(0))
	f.Add([]byte{255, 254, 0}, byte(255))
	f.Add([]byte{0, 1, 1}, byte(2))
	f.Fuzz(func(t *testing.T, b []byte, few byte) {
		b = slices.Clone(b[:min(len(b), 250)])
		var p []int
		for _, v := range b {
			switch {
			case v == 254:
				p = append(p, math.MinInt)
			case v == 255:
				p = append(p, math.MaxInt)
			case v >= 250:
				p = append(p, int(v)-254)
			default:
				p = append(p, int(v))
			}
		}
		cyclesOrNot(t, p)
		cycles(t, of(t, b))
		// An order by these bytes: the fuzzer seldom makes such.
		order := rising(len(b))
		for i, v := range b {
			j := int(v) % len(b)
			order[i], order[j] = order[j], order[i]
		}
		cycles(t, order)
		for i := range b {
			b[i] %= max(few, 1)
		}
		cycles(t, of(t, b))
	})
}
