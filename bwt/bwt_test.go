package bwt

import (
	"bytes"
	"cmp"
	"iter"
	"math"
	"slices"
	"strings"
	"testing"
	"time"

	"whorl/api"
	"whorl/check"
	"whorl/sais"
)

// none is what stands in the row of the whole text, which has no byte.
const none = -1

// turned is what a text is turned to.
type turned struct {
	l  string
	at int
}

// rows hands over all rows of n numbers, each least to greatest. Each is new, so that none is left out nor comes again where
// one that was handed in is changed.
func rows(n, least, greatest int) iter.Seq[[]int] {
	return func(yield func([]int) bool) {
		row := slices.Repeat([]int{least}, n)
		for {
			if !yield(slices.Clone(row)) {
				return
			}
			at := n - 1
			for at >= 0 && row[at] == greatest {
				row[at] = least
				at--
			}
			if at < 0 {
				return
			}
			row[at]++
		}
	}
}

// texts hands over all texts of n of these letters, each of them new.
func texts(n int, letters string) iter.Seq[[]byte] {
	return func(yield func([]byte) bool) {
		for row := range rows(n, 0, len(letters)-1) {
			text := make([]byte, n)
			for i, v := range row {
				text[i] = letters[v]
			}
			if !yield(text) {
				return
			}
		}
	}
}

// orders are all orders of n numbers.
func orders(n int) [][]int {
	if n == 0 {
		return [][]int{{}}
	}
	var all [][]int
	for _, fewer := range orders(n - 1) {
		for at := range n {
			all = append(all, slices.Insert(slices.Clone(fewer), at, n-1))
		}
	}
	return all
}

// rising is the numbers from 0 on, n of them.
func rising(n int) []int {
	row := make([]int, n)
	for i := range row {
		row[i] = i
	}
	return row
}

// falling is the numbers from n - 1 down to 0.
func falling(n int) []int {
	row := rising(n)
	slices.Reverse(row)
	return row
}

// swapped is a row with what stands at two places changed for each other.
func swapped[V any](row []V, i, j int) []V {
	other := slices.Clone(row)
	other[i], other[j] = other[j], other[i]
	return other
}

// with is a row with one place's changed.
func with[V any](row []V, at int, v V) []V {
	other := slices.Clone(row)
	other[at] = v
	return other
}

// draw hands over numbers of no plain rule, 0 to below - 1, the same ones each time.
func draw() func(below int) int {
	state := uint64(21)
	return func(below int) int {
		state = state*6364136223846793005 + 1442695040888963407
		return int(state>>33) % below
	}
}

// drawnOrder is an order of n numbers of no plain rule.
func drawnOrder(number func(below int) int, n int) []int {
	row := rising(n)
	for i := n - 1; i > 0; i-- {
		j := number(i + 1)
		row[i], row[j] = row[j], row[i]
	}
	return row
}

// drawnText is n bytes of no plain rule, each one of so many from a letter on.
func drawnText(number func(below int) int, n int, from byte, below int) []byte {
	var text []byte
	for range n {
		text = append(text, from+byte(number(below)))
	}
	return text
}

// repeated is n bytes of a word that comes again and again, the last time cut short or not.
func repeated(word string, n int) []byte {
	return bytes.Repeat([]byte(word), n/len(word)+1)[:n]
}

// joined is n bytes of the text whose beginnings are each the two shorter ones together: all of it comes again, but never
// for long by one period.
func joined(n int) []byte {
	one, two := []byte("a"), []byte("ab")
	for len(two) < n {
		one, two = two, slices.Concat(two, one)
	}
	return two[:n]
}

// compare is how two endings are to each other, byte by byte; what is the beginning of the other one is less.
func compare(s []byte, i, j int) int {
	for i < len(s) && j < len(s) {
		if s[i] != s[j] {
			return int(s[i]) - int(s[j])
		}
		i, j = i+1, j+1
	}
	return j - i
}

// endings is all places in order of their endings.
func endings(s []byte) []int {
	return slices.SortedFunc(slices.Values(rising(len(s))), func(i, j int) int { return compare(s, i, j) })
}

// byRows is a text turned by the rows that it has, each the place where its ending begins: the bytes ahead, in order, and
// the row of the ending that has none.
func byRows(s []byte, places []int) turned {
	var bytesAhead []byte
	at := none
	for row, place := range places {
		if place == 0 {
			at = row
			continue
		}
		bytesAhead = append(bytesAhead, s[place-1])
	}
	return turned{string(bytesAhead), at}
}

// ofInWords is Of of an order, by its words: the rows are the empty ending, then those of the order.
func ofInWords(s []byte, a []int) turned {
	return byRows(s, slices.Concat([]int{len(s)}, a))
}

// turnInWords is Turn by its words: the rows are all endings, the empty one among them, as they compare byte by byte.
func turnInWords(s []byte) turned {
	return byRows(s, slices.SortedFunc(slices.Values(rising(len(s)+1)), func(i, j int) int { return compare(s, i, j) }))
}

// isOrder tells whether each number is there once, by a search for each.
func isOrder(a []int) bool {
	for v := range len(a) {
		if !slices.Contains(a, v) {
			return false
		}
	}
	return true
}

// withNone is the bytes of all rows, none where the whole text is.
func withNone(l []byte, at int) []int {
	var row []int
	for _, b := range l {
		row = append(row, int(b))
	}
	return slices.Insert(row, at, none)
}

// backInWords is Back by its words: the rows are laid out whole, by putting the bytes ahead of all of them and sorting them,
// again and again; then what comes out is asked whether it is turned to that.
func backInWords(l []byte, at int) (string, bool) {
	if at < 0 || at > len(l) {
		return "", false
	}
	column := withNone(l, at)
	laid := make([][]int, len(column))
	for range column {
		for i, v := range column {
			laid[i] = slices.Insert(laid[i], 0, v)
		}
		slices.SortStableFunc(laid, slices.Compare)
	}
	var text []byte
	for _, v := range laid[at] {
		if v != none {
			text = append(text, byte(v))
		}
	}
	return string(text), turnInWords(text) == turned{string(l), at}
}

// of holds Of against what it is to be.
func of(t *testing.T, s []byte, a []int, want turned) {
	t.Helper()
	if l, at, ok := Of(s, a); !ok || string(l) != want.l || at != want.at {
		t.Fatalf("Of(%q, %v) is %q, %d, %v, not %q, %d", s, a, l, at, ok, want.l, want.at)
	}
}

// notOf holds Of against nothing and false.
func notOf(t *testing.T, s []byte, a []int) {
	t.Helper()
	if l, at, ok := Of(s, a); ok || l != nil || at != 0 {
		t.Fatalf("Of(%d bytes, %d numbers) is %q, %d, %v, not nothing: %.99q", len(s), len(a), l, at, ok, s)
	}
}

// turn holds Turn against what it is to be.
func turn(t *testing.T, s []byte, want turned) {
	t.Helper()
	if l, at, e := Turn(s); e != api.OK || string(l) != want.l || at != want.at {
		t.Fatalf("Turn(%q) is %q, %d, %v, not %q, %d", s, l, at, e, want.l, want.at)
	}
}

// noTurn holds Turn against ErrLong, beside which there is nothing.
func noTurn(t *testing.T, s []byte) {
	t.Helper()
	if l, at, e := Turn(s); e != api.ErrLong || len(l) != 0 || at != 0 {
		t.Fatalf("Turn of %d bytes is %d bytes, %d, %v, not ErrLong", len(s), len(l), at, e)
	}
}

// back holds Back against a text.
func back(t *testing.T, from turned, want string) {
	t.Helper()
	if s, e := Back([]byte(from.l), from.at); e != api.OK || string(s) != want {
		t.Fatalf("Back(%q, %d) is %q, %v, not %q", from.l, from.at, s, e, want)
	}
}

// noBack holds Back against ErrNot, beside which there is nothing.
func noBack(t *testing.T, l []byte, at int) {
	t.Helper()
	if s, e := Back(l, at); e != api.ErrNot || len(s) != 0 {
		t.Fatalf("Back(%d bytes, %d) is %d bytes, %v, not ErrNot: %.99q", len(l), at, len(s), e, l)
	}
}

// backOrNot holds Back against its words.
func backOrNot(t *testing.T, l []byte, at int) {
	t.Helper()
	if want, ok := backInWords(l, at); ok {
		back(t, turned{string(l), at}, want)
	} else {
		noBack(t, l, at)
	}
}

// all holds Of by the order of endings, Turn and Back of a text against their words.
func all(t *testing.T, s []byte) {
	t.Helper()
	want := turnInWords(s)
	of(t, s, endings(s), want)
	turn(t, s, want)
	back(t, want, string(s))
}

// farNumbers are numbers that are no place of any text here, the least and the greatest ones among them, and such as would
// be one by their lower digits alone.
func farNumbers() []int {
	return []int{
		math.MinInt, math.MinInt + 1, math.MinInt32, -1 << 32, 1 - 1<<32, -1 << 16, -256, -2, -1,
		1 << 31, math.MaxUint32, 1 << 32, 1<<32 + 1, 1<<32 + 2, math.MaxInt - 1, math.MaxInt,
	}
}

// P21.1, P21.2: the chapter's example.
func TestExample(t *testing.T) {
	s := []byte("banana")
	of(t, s, []int{5, 3, 1, 0, 4, 2}, turned{"annbaa", 4})
	turn(t, s, turned{"annbaa", 4})
	back(t, turned{"annbaa", 4}, "banana")
	for at := -1; at < 9; at++ {
		backOrNot(t, []byte("annbaa"), at)
	}
}

// P21.1, P21.2: by hand.
func TestSomeTexts(t *testing.T) {
	for s, want := range map[string]turned{
		"":            {"", 0},
		"a":           {"a", 1},
		"aa":          {"aa", 2},
		"ab":          {"ba", 1},
		"ba":          {"ab", 2},
		"abc":         {"cab", 1},
		"cba":         {"abc", 3},
		"abab":        {"bbaa", 2},
		"baba":        {"abba", 4},
		"mississippi": {"ipssmpissii", 5},
		"abracadabra": {"ardrcaaaabb", 3},
		"\xff\x00":    {"\x00\xff", 2},
		"\x7f\x80":    {"\x80\x7f", 1},
	} {
		turn(t, []byte(s), want)
		back(t, want, s)
	}
	// By orders that are not of endings.
	of(t, []byte("abc"), []int{1, 0, 2}, turned{"cab", 2})
	of(t, []byte("abc"), []int{0, 2, 1}, turned{"cba", 1})
	of(t, []byte("abc"), []int{2, 1, 0}, turned{"cba", 3})
	of(t, []byte("banana"), []int{0, 1, 2, 3, 4, 5}, turned{"abanan", 1})
}

// fewLetters are letters, and of how many of them the texts are short.
func fewLetters() map[string]int {
	return map[string]int{"ab": 5, "abc": 4, "\x00\xff": 5, "\x7f\x80": 4, "\x00\x01\x80\xff": 3, "abcdef": 3}
}

// P21.1: all short texts of a few letters and all orders of their places, be they of endings or not: Turn is Of by one of
// them.
func TestAllShortTextsAllOrders(t *testing.T) {
	for letters, longest := range fewLetters() {
		for n := range longest + 1 {
			for s := range texts(n, letters) {
				for _, a := range orders(n) {
					of(t, s, a, ofInWords(s, a))
				}
				all(t, s)
			}
		}
	}
	for n := range 8 {
		for _, a := range orders(n) {
			of(t, []byte("abacabcd")[:n], a, ofInWords([]byte("abacabcd"[:n]), a))
			of(t, []byte("gfedcba")[:n], a, ofInWords([]byte("gfedcba"[:n]), a))
		}
	}
}

// P21.1, P21.2: all short texts, somewhat longer: turned, and back.
func TestAllShortTexts(t *testing.T) {
	for letters, longest := range map[string]int{"ab": 12, "abc": 8, "abcd": 6, "\x00\xff": 10, "\x7f\x80": 9, "\x00\x01\x7f\x80\xff": 5} {
		for n := range longest + 1 {
			for s := range texts(n, letters) {
				all(t, s)
			}
		}
	}
}

// P21.1, W3: all short rows of numbers, those that are no order among them, of texts that are longer and shorter, too.
func TestAllShortRows(t *testing.T) {
	s := []byte("abacab")
	held := 0
	for n := range 6 {
		for a := range rows(n, -1, min(n+1, 5)) {
			for long := range len(s) + 1 {
				if long == n && isOrder(a) {
					of(t, s[:long], a, ofInWords(s[:long], a))
					held++
				} else {
					notOf(t, s[:long], a)
				}
			}
		}
	}
	if held != 1+1+2+6+24+120 {
		t.Errorf("%d rows are orders", held)
	}
}

// P21.1, W3: an order with one number in another's place: twice, no place, less than nothing, the least and the greatest.
func TestNoOrder(t *testing.T) {
	number := draw()
	for _, n := range []int{1, 2, 3, 5, 16, 100} {
		s := drawnText(number, n, 'a', 2)
		for _, a := range [][]int{endings(s), rising(n), falling(n), drawnOrder(number, n)} {
			of(t, s, a, ofInWords(s, a))
			for at, v := range a {
				for _, other := range append(farNumbers(), n, n+1, 2*n, -n, -n-1, v+1<<32, v-1<<32, v+1<<8, -v-1) {
					notOf(t, s, with(a, at, other))
				}
				for _, other := range a {
					if other != v {
						notOf(t, s, with(a, at, other))
					}
				}
			}
		}
	}
}

// P21.1, W3: orders of more places than the text has, and of fewer, those of its beginnings and its endings among them.
func TestLongerAndShorter(t *testing.T) {
	for _, all := range []string{"banana", "aaaaaa", "abcdef", "fedcba", "\x00\xff\x00\xff\x00\xff"} {
		for n := range len(all) + 1 {
			for m := range len(all) + 1 {
				if n == m {
					continue
				}
				for _, a := range [][]int{endings([]byte(all[:m])), endings([]byte(all[len(all)-m:])), rising(m), falling(m)} {
					notOf(t, []byte(all[:n]), a)
					notOf(t, []byte(all[len(all)-n:]), a)
				}
			}
			s := []byte(all[:n])
			up := endings(s)
			notOf(t, s, append(up[:n:n], n))
			notOf(t, s, append([]int{n}, up...))
			notOf(t, s, append(up[:n:n], -1))
			notOf(t, s, append(up[:n:n], 0))
			if n > 0 {
				notOf(t, s, append(up[:n:n], up...))
			}
		}
	}
}

// P21.1, P21.2, W5: nothing, nil or empty, is turned to nothing, whose row is 0; any other row there is not.
func TestNothing(t *testing.T) {
	noBytes := [][]byte{nil, {}, make([]byte, 0, 4), []byte("ab")[:0], []byte("ab")[2:]}
	noNumbers := [][]int{nil, {}, make([]int, 0, 4), []int{0, 1}[:0], []int{0, 1}[2:]}
	for _, s := range noBytes {
		for _, a := range noNumbers {
			of(t, s, a, turned{"", 0})
		}
		turn(t, s, turned{"", 0})
		if b, e := Back(s, 0); e != api.OK || len(b) != 0 {
			t.Errorf("Back of nothing is %q, %v", b, e)
		}
		for _, at := range append(farNumbers(), 1, 2, 256) {
			noBack(t, s, at)
		}
		notOf(t, s, []int{0})
		notOf(t, s, []int{-1})
		notOf(t, s, []int{0, 1})
	}
	for _, a := range noNumbers {
		notOf(t, []byte("a"), a)
		notOf(t, []byte("banana"), a)
	}
}

// P21.1, P21.2: one byte, and two, whichever they are: of one there is one turn, of two that are not alike there are two.
func TestOneAndTwo(t *testing.T) {
	for one := range bytesInAll {
		s := []byte{byte(one)}
		of(t, s, []int{0}, turned{string(s), 1})
		turn(t, s, turned{string(s), 1})
		back(t, turned{string(s), 1}, string(s))
		for _, v := range append(farNumbers(), 2, 3, 257) {
			noBack(t, s, v)
			notOf(t, s, []int{v})
		}
		noBack(t, s, 0)
		notOf(t, s, []int{1})
		for other := range bytesInAll {
			s := []byte{byte(one), byte(other)}
			all(t, s)
			for at := -1; at < 5; at++ {
				backOrNot(t, s, at)
			}
		}
	}
}

// P21.1, P21.2: one byte again and again is turned to itself, and its row is the last one; there is none by any other row.
func TestOneByteAgain(t *testing.T) {
	for n := range 70 {
		for _, b := range []byte{0, 1, 'a', 0x7f, 0x80, 0xff} {
			s := bytes.Repeat([]byte{b}, n)
			of(t, s, falling(n), turned{string(s), n})
			turn(t, s, turned{string(s), n})
			back(t, turned{string(s), n}, string(s))
			for at := -2; at < n; at++ {
				noBack(t, s, at)
			}
			for _, at := range append(farNumbers(), n+1, n+2, 2*n+1) {
				noBack(t, s, at)
			}
		}
	}
}

// P21.1, P21.2: no byte twice: the rows are by the bytes, and so are those ahead of them.
func TestNoByteTwice(t *testing.T) {
	number := draw()
	for n := range bytesInAll + 1 {
		up := make([]byte, n)
		for i := range up {
			up[i] = byte(i)
		}
		down := slices.Clone(up)
		slices.Reverse(down)
		if n > 0 {
			turn(t, up, turned{string(slices.Concat(up[n-1:], up[:n-1])), 1})
			turn(t, down, turned{string(up), n})
		}
		s := slices.Clone(up)
		for i, v := range drawnOrder(number, n) {
			s[i] = up[v]
		}
		for _, text := range [][]byte{up, down, s} {
			all(t, text)
		}
	}
}

// P21.1, P21.2: all bytes there are, each of them some times.
func TestAllBytes(t *testing.T) {
	number := draw()
	for _, times := range []int{1, 2, 3} {
		var s []byte
		for range times {
			for b := range bytesInAll {
				s = append(s, byte(b))
			}
		}
		all(t, s)
		for i, v := range drawnOrder(number, len(s)) {
			s[i] = byte(v)
		}
		all(t, s)
	}
}

// P21.1, P21.2: a word again and again, cut short or not, and with one byte that is another one.
func TestWordsAgain(t *testing.T) {
	for _, word := range []string{"ab", "ba", "aab", "aba", "baa", "abc", "cba", "abaab", "aabaabab", "abcabcabd", "\x00\xff\x00"} {
		for n := range 60 {
			s := repeated(word, n)
			all(t, s)
			if n > 0 {
				s[n/2] = 'b'
				all(t, s)
				s[n-1] = 0xff
				all(t, s)
				s[0] = 0
				all(t, s)
			}
		}
	}
	for n := range 90 {
		all(t, joined(n))
	}
}

// P21.1, P21.2: texts of some hundred bytes of no plain rule, and orders of no plain rule.
func TestLongerTexts(t *testing.T) {
	number := draw()
	for _, n := range []int{2, 3, 17, 64, 255, 256, 257, 400, 1000} {
		for _, below := range []int{1, 2, 3, 26, bytesInAll} {
			s := drawnText(number, n, byte(number(bytesInAll)), below)
			all(t, s)
			all(t, slices.Concat(s[:n/2+1], s[:n/2+1]))
			for range 5 {
				a := drawnOrder(number, n)
				of(t, s, a, ofInWords(s, a))
			}
		}
	}
}

// P21.2: all short rows of a few letters with every number from less than nothing to more than their length: just those have
// a text that some text of that length is turned to, and no two texts are turned to one.
func TestAllTurns(t *testing.T) {
	for letters, longest := range map[string]int{"ab": 10, "abc": 7, "abcd": 5, "\x00\xff": 8, "\x7f\x80": 7, "\x00\x01\x80\xff": 4} {
		for n := range longest + 1 {
			texted := map[turned]string{}
			many := 0
			for s := range texts(n, letters) {
				texted[turnInWords(s)] = string(s)
				many++
			}
			if len(texted) != many {
				t.Fatalf("%d texts of %d of %q have %d turns", many, n, letters, len(texted))
			}
			for l := range texts(n, letters) {
				for at := -2; at <= n+3; at++ {
					if s, ok := texted[turned{string(l), at}]; ok {
						back(t, turned{string(l), at}, s)
					} else {
						noBack(t, l, at)
					}
				}
				for _, at := range farNumbers() {
					noBack(t, l, at)
				}
			}
		}
	}
}

// TestBackInWords holds what tells of longer rows against the turns of all texts.
func TestBackInWords(t *testing.T) {
	for n := range 6 {
		texted := map[turned]string{}
		for s := range texts(n, "abc") {
			texted[turnInWords(s)] = string(s)
		}
		for l := range texts(n, "abc") {
			for at := -1; at <= n+1; at++ {
				want, ok := texted[turned{string(l), at}]
				if s, is := backInWords(l, at); is != ok || ok && s != want {
					t.Fatalf("of %q, %d the text is told to be %q, %v, not %q, %v", l, at, s, is, want, ok)
				}
			}
		}
	}
}

// someTexts are texts of all kinds, of some bytes.
func someTexts() []string {
	number := draw()
	return []string{
		"a", "ab", "banana", "mississippi", "abracadabra", "aaaaaaaab", "baaaaaaaa", "abcdefgh", "hgfedcba", "\x00\xff\x00\x00\xff",
		string(repeated("ab", 12)), string(repeated("aab", 13)), string(repeated("\xff\x00", 9)), string(joined(21)),
		string(drawnText(number, 18, 'a', 2)), string(drawnText(number, 18, 'a', 5)), string(drawnText(number, 18, 0, bytesInAll)),
	}
}

// P21.2: turns with one byte changed: to one that is there, to one that is next to it, to the least and the greatest.
func TestOneByteChanged(t *testing.T) {
	for _, s := range someTexts() {
		was := turnInWords([]byte(s))
		for at, b := range []byte(was.l) {
			for _, other := range []byte{b + 1, b - 1, b ^ 0x80, 0, 0xff, was.l[0], was.l[len(was.l)-1], 'a', 'b'} {
				backOrNot(t, with([]byte(was.l), at, other), was.at)
			}
		}
	}
}

// P21.2: turns with two bytes changed about, whichever they are.
func TestTwoBytesChanged(t *testing.T) {
	for _, s := range someTexts() {
		was := turnInWords([]byte(s))
		for i := range was.l {
			for j := range i {
				backOrNot(t, swapped([]byte(was.l), i, j), was.at)
			}
		}
	}
}

// P21.2: turns with another number, from less than nothing to more than their length, and far from these; and with a byte
// more or fewer, wherever that is.
func TestAnotherNumber(t *testing.T) {
	for _, s := range someTexts() {
		was := turnInWords([]byte(s))
		l := []byte(was.l)
		n := len(l)
		for at := -3; at <= n+3; at++ {
			backOrNot(t, l, at)
		}
		for _, at := range append(farNumbers(), -n, -n-1, -was.at, was.at+1<<32, was.at-1<<32, was.at+1<<16, 2*n+1, n+256) {
			if at != was.at {
				noBack(t, l, at)
			}
		}
		for i := range n + 1 {
			backOrNot(t, slices.Insert(slices.Clone(l), i, 'a'), was.at)
			backOrNot(t, slices.Insert(slices.Clone(l), i, 0xff), was.at+1)
			if i < n {
				backOrNot(t, slices.Delete(slices.Clone(l), i, i+1), was.at)
				backOrNot(t, slices.Delete(slices.Clone(l), i, i+1), was.at-1)
			}
		}
	}
}

// P21.2: bytes of no plain rule and numbers of no plain rule seldom are some text's; what Of by another order answers seldom
// is, either.
func TestDrawnRows(t *testing.T) {
	number := draw()
	have, haveNot := 0, 0
	for range 3000 {
		n := 1 + number(14)
		s := drawnText(number, n, 'a', 1+number(4))
		at := number(n + 1)
		if _, ok := backInWords(s, at); ok {
			have++
		} else {
			haveNot++
		}
		backOrNot(t, s, at)
		l, at, _ := Of(s, drawnOrder(number, n))
		backOrNot(t, l, at)
	}
	if have < 100 || haveNot < 100 {
		t.Errorf("%d have a text, %d have none", have, haveNot)
	}
}

// isOneRing tells of long bytes whether they are some text's: whether all rows come one after the other, from the first one
// on, where each goes to that which has its place once the bytes are sorted.
func isOneRing(l []byte, at int) bool {
	column := withNone(l, at)
	sorted := slices.SortedStableFunc(slices.Values(rising(len(column))), func(i, j int) int {
		return cmp.Compare(column[i], column[j])
	})
	row := sorted[0]
	steps := 1
	for row != 0 {
		row = sorted[row]
		steps++
	}
	return steps == len(column)
}

// TestIsOneRing holds what tells of long bytes against the words.
func TestIsOneRing(t *testing.T) {
	for n := range 8 {
		for l := range texts(n, "ab") {
			for at := range n + 1 {
				if _, ok := backInWords(l, at); isOneRing(l, at) != ok {
					t.Fatalf("%q, %d is told to be %v", l, at, !ok)
				}
			}
		}
	}
}

// longTexts are texts of n bytes, of all kinds.
func longTexts(n int) [][]byte {
	number := draw()
	half := drawnText(number, n-n/2, 'a', 3)
	last := repeated("a", n)
	last[n-1] = 'b'
	middle := repeated("ab", n)
	middle[n/2] = 'c'
	return [][]byte{
		repeated("a", n), repeated("\x00", n), repeated("\xff", n), repeated("ba", n), repeated("aabaabab", n), joined(n),
		repeated(string(drawnText(number, 1000, 0, bytesInAll)), n), last, middle, slices.Concat(half, half)[:n],
		drawnText(number, n, 'a', 2), drawnText(number, n, 'a', 26), drawnText(number, n, 0, bytesInAll),
	}
}

// P21.1, P21.2: texts of MaxText bytes, and of some fewer: turned, and back, and not back by other bytes or numbers, but
// where these are another text's.
func TestManyBytes(t *testing.T) {
	number := draw()
	for _, n := range []int{5000, api.MaxText - 1, api.MaxText} {
		for which, s := range longTexts(n) {
			up, e := sais.Bytes(s)
			if e != api.OK || !check.SA(s, up) {
				t.Fatal("there is no order to hold it against")
			}
			want := ofInWords(s, up)
			l, at, e := Turn(s)
			if e != api.OK || string(l) != want.l || at != want.at {
				t.Fatalf("Turn of text %d, of %d bytes, is wrong", which, n)
			}
			if x, row, ok := Of(s, up); !ok || string(x) != want.l || row != want.at {
				t.Fatalf("Of text %d, of %d bytes, is wrong", which, n)
			}
			if text, e := Back(l, at); e != api.OK || !bytes.Equal(text, s) {
				t.Fatalf("Back of text %d, of %d bytes, is wrong", which, n)
			}
			longBack(t, swapped(l, number(n), number(n)), at)
			longBack(t, with(l, number(n), 'b'), at)
			for _, other := range []int{number(n + 1), 0, at - 1, at + 1, n, n + 1, math.MinInt, math.MaxInt} {
				longBack(t, l, other)
			}
		}
	}
}

// longBack holds Back of long bytes against whether they are some text's, and which one.
func longBack(t *testing.T, l []byte, at int) {
	t.Helper()
	s, e := Back(l, at)
	if at < 0 || at > len(l) || !isOneRing(l, at) {
		if e != api.ErrNot || len(s) != 0 {
			t.Fatalf("Back of %d bytes, %d is %d bytes, %v, not ErrNot", len(l), at, len(s), e)
		}
		return
	}
	up, _ := sais.Bytes(s)
	if e != api.OK || !check.SA(s, up) || ofInWords(s, up) != (turned{string(l), at}) {
		t.Fatalf("Back of %d bytes, %d is %d bytes, %v, which are not turned to these", len(l), at, len(s), e)
	}
}

// P21.1: the chapter names no bound for Of, so that a text of more than MaxText bytes is turned by an order, too; more than
// MaxText bytes are no text's Turn, even if a text would be turned to them.
func TestMoreThanMaxText(t *testing.T) {
	number := draw()
	for _, n := range []int{api.MaxText + 1, api.MaxText + 2, 3 * api.MaxText, 1 << 20} {
		same := repeated("a", n)
		some := drawnText(number, n, 0, bytesInAll)
		for _, c := range []struct {
			s []byte
			a []int
		}{{same, falling(n)}, {same, rising(n)}, {some, endings(some)}, {some, drawnOrder(number, n)}} {
			want := ofInWords(c.s, c.a)
			l, at, ok := Of(c.s, c.a)
			if !ok || string(l) != want.l || at != want.at {
				t.Fatalf("Of %d bytes is wrong", n)
			}
			noTurn(t, c.s)
			for _, row := range append(farNumbers(), at, 0, 1, n/2, n-1, n, n+1, api.MaxText, api.MaxText+1) {
				noBack(t, l, row)
			}
			notOf(t, c.s, c.a[1:])
			notOf(t, c.s, with(c.a, n/2, c.a[0]))
			notOf(t, c.s[1:], c.a)
		}
	}
	// What is there behind the end is none of the text.
	s := make([]byte, api.MaxText+1)[:api.MaxText]
	turn(t, s, turned{string(s), len(s)})
	back(t, turned{string(s), len(s)}, string(s))
}

// P21.1: rows of MaxText numbers that are no order, and long orders of another length than the text.
func TestManyNumbersRefused(t *testing.T) {
	n := api.MaxText
	s := repeated("ab", n)
	up := drawnOrder(draw(), n)
	for _, at := range []int{0, 1, n / 2, n - 1} {
		for _, v := range append(farNumbers(), up[(at+1)%n], n, n+1) {
			notOf(t, s, with(up, at, v))
		}
	}
	for _, other := range [][]byte{s[1:], s[:n-1], s[:1], nil, append(s[:n:n], 'a')} {
		notOf(t, other, up)
	}
	for _, other := range [][]int{up[1:], up[:n-1], up[:1], nil, append(up[:n:n], n), make([]int, n)} {
		notOf(t, s, other)
	}
}

// A text of MaxText bytes is turned, and back, in well under a second: the shortest of some calls, as the machine may be
// busy with others.
func TestManyBytesSoon(t *testing.T) {
	const wellUnder = time.Second / 2
	soon := func(call func()) bool {
		for range 5 {
			began := time.Now()
			call()
			if time.Since(began) < wellUnder {
				return true
			}
		}
		return false
	}
	for which, s := range longTexts(api.MaxText) {
		up, _ := sais.Bytes(s)
		l, at, _ := Turn(s)
		if !soon(func() { Turn(s) }) || !soon(func() { Of(s, up) }) || !soon(func() { Back(l, at) }) {
			t.Errorf("text %d takes %v and more", which, wellUnder)
		}
	}
}

// memoryCases are texts whose memory is held against that of answers.
func memoryCases() []string {
	return append(someTexts(), "", "aa", "aaaa", string(repeated("aab", 64)), string(repeated("a", 33)))
}

// handed is what is handed in for one text: the text and its order, and what it is turned to.
type handed struct {
	s []byte
	a []int
	l []byte
}

// handedIn is all that is handed in for one text, in lists with so much room behind their ends.
func handedIn(s string, spare int) handed {
	up := endings([]byte(s))
	l := turnInWords([]byte(s)).l
	return handed{
		append(make([]byte, 0, len(s)+spare), s...),
		append(make([]int, 0, len(s)+spare), up...),
		append(make([]byte, 0, len(s)+spare), l...),
	}
}

// answers are all lists that are answered for what is handed in: of Of, of Turn and of Back.
func answers(in handed, at int) [][]byte {
	one, _, _ := Of(in.s, in.a)
	two, _, _ := Turn(in.s)
	three, _ := Back(in.l, at)
	return [][]byte{one, two, three}
}

// same holds answers against what they are to be.
func same(t *testing.T, s string, got [][]byte) {
	t.Helper()
	l := turnInWords([]byte(s)).l
	for i, want := range []string{l, l, s} {
		if string(got[i]) != want {
			t.Fatalf("answer %d of %q is %q, not %q", i, s, got[i], want)
		}
	}
}

// marked lays one thing all over a list and the room behind it.
func marked[V any](list []V, mark V) {
	list = list[:cap(list)]
	for i := range list {
		list[i] = mark
	}
}

// P21.3, W6: what is answered shares no memory with what is handed in or with another answer, nor the room behind it; and
// what it was written over with is not told of later.
func TestAnswersShareNothing(t *testing.T) {
	for _, s := range memoryCases() {
		at := turnInWords([]byte(s)).at
		for _, spare := range []int{0, 1, 16} {
			in := handedIn(s, spare)
			lists := append(slices.Concat(answers(in, at), answers(in, at), answers(in, at)), in.s, in.l)
			for i, list := range lists {
				marked(list, byte(i))
			}
			for i, list := range lists {
				if slices.ContainsFunc(list[:cap(list)], func(b byte) bool { return b != byte(i) }) {
					t.Errorf("two lists of %q share memory", s)
				}
			}
			if !slices.Equal(in.a, endings([]byte(s))) {
				t.Errorf("the order of %q has become %v with its answers", s, in.a)
			}
			same(t, s, answers(handedIn(s, spare), at))
		}
	}
}

// P21.3, W6: the text is another one than what is handed in, even where it is the same bytes; and so it is turned.
func TestTheSameBytes(t *testing.T) {
	for n := range 20 {
		s := repeated("a", n)
		one, at, _ := Turn(s)
		two, _, _ := Of(s, falling(n))
		three, _ := Back(s, n)
		for _, list := range [][]byte{one, two, three} {
			marked(list, 'x')
		}
		if at != n || strings.Trim(string(s), "a") != "" {
			t.Errorf("%d bytes have become %q", n, s)
		}
	}
}

// around is a list with something ahead of it and some behind it, and the list in the midst of that.
func around[V any](list []V, by V) (room, midst []V) {
	room = slices.Concat([]V{by, by}, list, []V{by, by, by, by})
	return room, room[2 : 2+len(list)]
}

// P21.3, W6: neither what is handed in nor the room around it is changed, and that room is not told of.
func TestWhatIsHandedInStays(t *testing.T) {
	for _, by := range []int{0, 1, 'a', 'b', 'n', 0x80, 0xff} {
		for _, s := range memoryCases() {
			in, want := handedIn(s, 0), turnInWords([]byte(s))
			text, midstText := around(in.s, byte(by))
			order, midstOrder := around(in.a, by)
			bytesAhead, midstBytes := around(in.l, byte(by))
			wasText, wasOrder, wasBytes := slices.Clone(text), slices.Clone(order), slices.Clone(bytesAhead)
			same(t, s, answers(handed{midstText, midstOrder, midstBytes}, want.at))
			// Such as are refused, too.
			Of(midstText, order)
			Of(text, midstOrder)
			Back(midstBytes, want.at-1)
			Back(bytesAhead, want.at)
			if !bytes.Equal(text, wasText) || !slices.Equal(order, wasOrder) || !bytes.Equal(bytesAhead, wasBytes) {
				t.Errorf("%q, %v, %q have become %q, %v, %q", wasText, wasOrder, wasBytes, text, order, bytesAhead)
			}
		}
	}
	long := repeated("ab", api.MaxText+10)
	Turn(long[:api.MaxText+1])
	Back(long[:api.MaxText+1], api.MaxText)
	if !bytes.Equal(long, repeated("ab", len(long))) {
		t.Error("a long text has been changed")
	}
}

// P21.1, P21.2: what is missing stands in the room behind the end, and is none of it.
func TestRoomBehind(t *testing.T) {
	row := []int{5, 3, 1, 0, 4, 2, 6}
	of(t, []byte("bananabanana")[:6], row[:6], turned{"annbaa", 4})
	notOf(t, []byte("banana"), row[:5])
	notOf(t, []byte("banana"), []int{2, 1, 0, 3, 4, 5}[:3])
	notOf(t, []byte("banana")[:3], []int{2, 1, 0, 3, 4, 5})
	turn(t, []byte("bananabanana")[:6], turned{"annbaa", 4})
	if s, e := Back([]byte("annbaaannbaa")[:6], 4); e != api.OK || string(s) != "banana" {
		t.Errorf("Back with room behind is %q, %v", s, e)
	}
	noBack(t, []byte("annbaa")[:3], 4)
}

// P21.3, W2, W6, W7: what was handed in is not kept: written over, with the room behind it, it changes no answer, be it one
// that was given or a later one.
func TestNothingIsKept(t *testing.T) {
	for _, s := range memoryCases() {
		at := turnInWords([]byte(s)).at
		for _, spare := range []int{0, 1, 16} {
			in := handedIn(s, spare)
			lists := answers(in, at)
			marked(in.s, 0xfe)
			marked(in.a, -1)
			marked(in.l, 0xfe)
			same(t, s, lists)
			turn(t, in.s, turned{string(in.s), len(s)})
			if len(s) > 0 {
				notOf(t, in.s, in.a)
			}
			again := handedIn(s, 0)
			copy(in.s, again.s)
			copy(in.a, again.a)
			copy(in.l, again.l)
			same(t, s, answers(in, at))
		}
	}
}

// P21.3, W2, W7: what is answered stays, whatever is called later, and is answered again.
func TestAnswersStay(t *testing.T) {
	for _, s := range memoryCases() {
		at := turnInWords([]byte(s)).at
		lists := answers(handedIn(s, 0), at)
		for _, later := range memoryCases() {
			answers(handedIn(later, 2), at)
			answers(handedIn(later, 0), turnInWords([]byte(later)).at)
		}
		same(t, s, lists)
		same(t, s, answers(handedIn(s, 0), at))
	}
}

// orderBy is an order of n numbers that bytes tell: those that are less come first, each by what it says.
func orderBy(b []byte, n int) []int {
	row := rising(n)
	slices.SortStableFunc(row, func(i, j int) int { return cmp.Compare(b[i%len(b)], b[j%len(b)]) })
	return row
}

// FuzzBwt takes its text from bytes, by some of their lower digits, and its row from others.
func FuzzBwt(f *testing.F) {
	f.Add([]byte("banana"), []byte{5, 3, 1, 0, 4, 2}, 4, byte(0xff))
	f.Add([]byte("annbaa"), []byte{0, 1, 2, 3, 4, 5}, 4, byte(0xff))
	f.Add([]byte("aaaa"), []byte{3, 2, 1, 0}, 3, byte(1))
	f.Add([]byte{}, []byte{}, 0, byte(2))
	f.Add([]byte("ab"), []byte{255, 254}, -1, byte(7))
	f.Add([]byte("abc"), []byte{0, 1, 1}, 9, byte(3))
	f.Fuzz(func(t *testing.T, s, b []byte, at int, few byte) {
		s, b = slices.Clone(s[:min(len(s), 100)]), b[:min(len(b), 100)]
		// Of few letters: the fuzzer seldom makes texts that come again.
		for i := range s {
			s[i] %= max(few, 1)
		}
		var a []int
		for _, v := range b {
			a = append(a, int(int8(v)))
		}
		if len(a) == len(s) && isOrder(a) {
			of(t, s, a, ofInWords(s, a))
		} else {
			notOf(t, s, a)
		}
		all(t, s)
		backOrNot(t, s, at)
		backOrNot(t, s, int(uint(at)%uint(len(s)+1)))
		if len(b) > 0 {
			by := orderBy(b, len(s))
			of(t, s, by, ofInWords(s, by))
		}
	})
}
