package ext

import (
	"bytes"
	"cmp"
	"iter"
	"math"
	"slices"
	"strconv"
	"strings"
	"testing"
	"time"

	"whorl/api"
	"whorl/necklace"
)

// bytesInAll is how many bytes there are.
const bytesInAll = 256

// rows hands over all rows of n numbers, each least to greatest. Each is new, so that none is left out nor comes again where
// one that was handed in is changed.
func rows(n, least, greatest int) iter.Seq[[]int] {
	return func(yield func([]int) bool) {
		row := slices.Repeat([]int{least}, n)
		for {
			if !yield(slices.Clone(row)) {
				return
			}
			at := n - 1
			for at >= 0 && row[at] == greatest {
				row[at] = least
				at--
			}
			if at < 0 {
				return
			}
			row[at]++
		}
	}
}

// texts hands over all texts of n of these letters.
func texts(n int, letters string) iter.Seq[string] {
	return func(yield func(string) bool) {
		for row := range rows(n, 0, len(letters)-1) {
			text := make([]byte, n)
			for i, v := range row {
				text[i] = letters[v]
			}
			if !yield(string(text)) {
				return
			}
		}
	}
}

// partings hands over all rows of words, none of them empty, that are a text one behind the other.
func partings(s string) iter.Seq[[]string] {
	return func(yield func([]string) bool) {
		if s == "" {
			yield(nil)
			return
		}
		for cuts := range rows(len(s)-1, 0, 1) {
			var words []string
			from := 0
			for i, cut := range cuts {
				if cut == 1 {
					words = append(words, s[from:i+1])
					from = i + 1
				}
			}
			if !yield(append(words, s[from:])) {
				return
			}
		}
	}
}

// shortRows hands over all rows of words that have n bytes in all, of these letters.
func shortRows(n int, letters string) iter.Seq[[]string] {
	return func(yield func([]string) bool) {
		for s := range texts(n, letters) {
			for words := range partings(s) {
				if !yield(words) {
					return
				}
			}
		}
	}
}

// orders are all orders of n numbers.
func orders(n int) [][]int {
	if n == 0 {
		return [][]int{{}}
	}
	var all [][]int
	for _, fewer := range orders(n - 1) {
		for at := range n {
			all = append(all, slices.Insert(slices.Clone(fewer), at, n-1))
		}
	}
	return all
}

// byteLists are words as bytes.
func byteLists(words []string) [][]byte {
	lists := make([][]byte, len(words))
	for i, word := range words {
		lists[i] = []byte(word)
	}
	return lists
}

// asTexts are words as texts.
func asTexts(words [][]byte) []string {
	list := make([]string, len(words))
	for i, word := range words {
		list[i] = string(word)
	}
	return list
}

// with is a row with one place's changed.
func with[V any](row []V, at int, v V) []V {
	other := slices.Clone(row)
	other[at] = v
	return other
}

// swapped is a row with what stands at two places changed for each other.
func swapped[V any](row []V, i, j int) []V {
	other := slices.Clone(row)
	other[i], other[j] = other[j], other[i]
	return other
}

// rotated is a word's rotation i, laid out.
func rotated(word string, i int) string { return word[i:] + word[:i] }

// draw hands over numbers of no plain rule, 0 to below - 1, the same ones each time.
func draw() func(below int) int {
	state := uint64(24)
	return func(below int) int {
		state = state*6364136223846793005 + 1442695040888963407
		return int(state>>33) % below
	}
}

// drawnText is n bytes of no plain rule, each one of so many from a letter on.
func drawnText(number func(below int) int, n int, from byte, below int) string {
	var text []byte
	for range n {
		text = append(text, from+byte(number(below)))
	}
	return string(text)
}

// drawnWords are words of no plain rule: of one to five roots, each of one to longest bytes, each word one of these again and
// again, and turned round.
func drawnWords(number func(below int) int, most, longest int, from byte, below int) []string {
	var roots, words []string
	for range 1 + number(5) {
		roots = append(roots, drawnText(number, 1+number(longest), from, below))
	}
	for range number(most + 1) {
		word := strings.Repeat(roots[number(len(roots))], 1+number(4))
		words = append(words, rotated(word, number(len(word))))
	}
	return words
}

// shuffled are the same rings: the words in another order, each turned round.
func shuffled(number func(below int) int, words []string) []string {
	other := slices.Clone(words)
	for i, word := range other {
		j := number(i + 1)
		other[i] = other[j]
		other[j] = rotated(word, number(len(word)))
	}
	return other
}

// repeated is n bytes of a word that comes again and again, the last time cut short or not.
func repeated(word string, n int) string { return strings.Repeat(word, n/len(word)+1)[:n] }

// joined is n bytes of the text whose beginnings are each the two shorter ones together: all of it comes again, but never
// for long by one period.
func joined(n int) string {
	one, two := "a", "ab"
	for len(two) < n {
		one, two = two, two+one
	}
	return two[:n]
}

// compare is how a word without end is to another one, byte by byte.
func compare(u, v string) int {
	for i := range len(u) + len(v) {
		if c := cmp.Compare(u[i%len(u)], v[i%len(v)]); c != 0 {
			return c
		}
	}
	return 0
}

// turned is the last bytes of all rotations of words, each laid out whole, as they stand when sorted as words without end.
func turned(words []string) string {
	var all []string
	for _, word := range words {
		for i := range len(word) {
			all = append(all, rotated(word, i))
		}
	}
	slices.SortStableFunc(all, compare)
	var l []byte
	for _, rotation := range all {
		l = append(l, rotation[len(rotation)-1])
	}
	return string(l)
}

// ring is a word as a ring: its least rotation's root, and how many times it is that.
type ring struct {
	root  string
	times int
}

// ringOf is a word as a ring, of all its rotations and all its beginnings.
func ringOf(word string) ring {
	least := word
	for i := range len(word) {
		least = min(least, rotated(word, i))
	}
	n := 1
	for strings.Repeat(least[:n], len(least)/n) != least {
		n++
	}
	return ring{least[:n], len(least) / n}
}

// ringsOf are words as rings, by their roots, then by how many times.
func ringsOf(words []string) []ring {
	var row []ring
	for _, word := range words {
		row = append(row, ringOf(word))
	}
	slices.SortFunc(row, func(a, b ring) int {
		return cmp.Or(strings.Compare(a.root, b.root), cmp.Compare(a.times, b.times))
	})
	return row
}

// canonInWords is Canon of words, none of them empty.
func canonInWords(words []string) []string {
	var canon []string
	for _, r := range ringsOf(words) {
		canon = append(canon, strings.Repeat(r.root, r.times))
	}
	return canon
}

// timesInWords is how many times each of Canon is its root.
func timesInWords(words []string) []int {
	var times []int
	for _, r := range ringsOf(words) {
		times = append(times, r.times)
	}
	return times
}

// turn holds Turn against what it is to be.
func turn(t *testing.T, words []string, wantL string, wantTimes []int) {
	t.Helper()
	if l, times, e := Turn(byteLists(words)); e != api.OK || string(l) != wantL || !slices.Equal(times, wantTimes) {
		t.Fatalf("Turn(%q) is %q, %v, %v, not %q, %v", words, l, times, e, wantL, wantTimes)
	}
}

// back holds Back against what it is to be.
func back(t *testing.T, l string, times []int, want []string) {
	t.Helper()
	if words, e := Back([]byte(l), times); e != api.OK || !slices.Equal(asTexts(words), want) {
		t.Fatalf("Back(%q, %v) is %q, %v, not %q", l, times, words, e, want)
	}
}

// notBack holds Back against an error, beside which there is nothing.
func notBack(t *testing.T, l string, times []int, want api.Errno) {
	t.Helper()
	if words, e := Back([]byte(l), times); e != want || words != nil {
		t.Fatalf("Back of %.40q, %d bytes, and %.40v, %d numbers, is %d words, %v, not %v", l, len(l), times, len(times), len(words), e, want)
	}
}

// notTurned holds Turn against an error, beside which there is nothing.
func notTurned(t *testing.T, words [][]byte, want api.Errno) {
	t.Helper()
	if l, times, e := Turn(words); e != want || l != nil || times != nil {
		t.Fatalf("Turn of %d words is %d bytes, %d numbers, %v, not %v", len(words), len(l), len(times), e, want)
	}
}

// all holds Turn of words and Back of that against their words.
func all(t *testing.T, words ...string) {
	t.Helper()
	l, times := turned(words), timesInWords(words)
	turn(t, words, l, times)
	back(t, l, times, canonInWords(words))
}

// P24.1, P24.2: the chapter's example.
func TestExample(t *testing.T) {
	turn(t, []string{"ab", "ab"}, "bbaa", []int{1, 1})
	turn(t, []string{"abab"}, "bbaa", []int{2})
	back(t, "bbaa", []int{1, 1}, []string{"ab", "ab"})
	back(t, "bbaa", []int{2}, []string{"abab"})
}

// P24.1, P24.2: by hand.
func TestSomeRows(t *testing.T) {
	for _, c := range []struct {
		words []string
		l     string
		times []int
		canon []string
	}{
		{nil, "", nil, nil},
		{[]string{"a"}, "a", []int{1}, []string{"a"}},
		{[]string{"aa"}, "aa", []int{2}, []string{"aa"}},
		{[]string{"aa", "a"}, "aaa", []int{1, 2}, []string{"a", "aa"}},
		{[]string{"ba"}, "ba", []int{1}, []string{"ab"}},
		{[]string{"b", "a"}, "ab", []int{1, 1}, []string{"a", "b"}},
		{[]string{"ab", "abab"}, "bbbaaa", []int{1, 2}, []string{"ab", "abab"}},
		{[]string{"baba", "ba", "ab"}, "bbbbaaaa", []int{1, 1, 2}, []string{"ab", "ab", "abab"}},
		{[]string{"ab", "aba"}, "babaa", []int{1, 1}, []string{"aab", "ab"}},
		{[]string{"banana"}, "nnbaaa", []int{1}, []string{"abanan"}},
		{[]string{"b", "an", "an", "a"}, "annbaa", []int{1, 1, 1, 1}, []string{"a", "an", "an", "b"}},
		{[]string{"b", "nana", "a"}, "annbaa", []int{1, 2, 1}, []string{"a", "anan", "b"}},
		{[]string{"cc", "aa", "c"}, "aaccc", []int{2, 1, 2}, []string{"aa", "c", "cc"}},
		{[]string{"b", "ab", "a"}, "abab", []int{1, 1, 1}, []string{"a", "ab", "b"}},
		{[]string{"\xff", "\x00"}, "\x00\xff", []int{1, 1}, []string{"\x00", "\xff"}},
		{[]string{"\xff\x00"}, "\xff\x00", []int{1}, []string{"\x00\xff"}},
		{[]string{"\x80\x7f", "\x7f"}, "\x7f\x80\x7f", []int{1, 1}, []string{"\x7f", "\x7f\x80"}},
		{[]string{"abcabc", "bca", "cab"}, "ccccaaaabbbb", []int{1, 1, 2}, []string{"abc", "abc", "abcabc"}},
	} {
		turn(t, c.words, c.l, c.times)
		back(t, c.l, c.times, c.canon)
		if turned(c.words) != c.l || !slices.Equal(timesInWords(c.words), c.times) || !slices.Equal(canonInWords(c.words), c.canon) {
			t.Errorf("in words, %q is %q, %v, of %q", c.words, turned(c.words), timesInWords(c.words), canonInWords(c.words))
		}
	}
}

// fewLetters are letters, and how many bytes the rows of words of them have at most.
func fewLetters() map[string]int {
	return map[string]int{"a": 12, "ab": 8, "abc": 6, "abcd": 4, "\x00\xff": 7, "\x7f\x80": 7, "\x00\x01\x7f\x80\xff": 4}
}

// P24.1, P24.3: all short rows of short words of a few letters: turned, and back.
func TestAllShortRows(t *testing.T) {
	for letters, longest := range fewLetters() {
		for n := range longest + 1 {
			for words := range shortRows(n, letters) {
				all(t, words...)
			}
		}
	}
}

// P9.1 holds what the tests take for Canon and its times.
func TestCanonInWords(t *testing.T) {
	for letters, longest := range fewLetters() {
		for n := range min(longest, 6) + 1 {
			for words := range shortRows(n, letters) {
				_, times := necklace.Roots(byteLists(words))
				canon := asTexts(necklace.Canon(byteLists(words)))
				if !slices.Equal(canonInWords(words), canon) || !slices.Equal(timesInWords(words), times) {
					t.Fatalf("of %q, Canon is %q, %v, in words %q, %v", words, canon, times, canonInWords(words), timesInWords(words))
				}
			}
		}
	}
}

// told is bytes and times in one text.
func told(l string, times []int) string {
	for _, n := range times {
		l += "," + strconv.Itoa(n)
	}
	return l
}

// someTimes hands over all rows of few numbers, from below nought to more than n, and rows of some more, up to n + 1.
func someTimes(n int) iter.Seq[[]int] {
	return func(yield func([]int) bool) {
		for many := range n + 2 {
			least, greatest := -1, n+1
			if many > 3 {
				least, greatest = 0, 2
			}
			for times := range rows(many, least, greatest) {
				if !yield(times) {
					return
				}
			}
		}
	}
}

// turnsOf is what all rows of words of n bytes in all are turned to: of each such Turn, as told, its Canon.
func turnsOf(t *testing.T, n int, letters string) map[string][]string {
	canonOf := map[string][]string{}
	turnOf := map[string]string{}
	for words := range shortRows(n, letters) {
		canon := canonInWords(words)
		one, key := told(strings.Join(canon, ";"), nil), told(turned(words), timesInWords(words))
		if other, ok := canonOf[key]; ok && !slices.Equal(other, canon) {
			t.Fatalf("%q and %q are both turned to %q", other, canon, key)
		}
		if other, ok := turnOf[one]; ok && other != key {
			t.Fatalf("%q is turned to %q and to %q", canon, other, key)
		}
		canonOf[key], turnOf[one] = canon, key
	}
	return canonOf
}

// P24.2, P24.3: all short rows of a few letters with all short rows of times, right and wrong ones, against the Turns of all
// rows of words of so many bytes in all.
func TestAllShortTurns(t *testing.T) {
	for letters, longest := range map[string]int{"a": 9, "ab": 6, "abc": 4, "abcd": 3, "\x00\xff": 5, "\x7f\x80": 4} {
		for n := range longest + 1 {
			canonOf := turnsOf(t, n, letters)
			right := 0
			for l := range texts(n, letters) {
				for times := range someTimes(n) {
					if canon, ok := canonOf[told(l, times)]; ok {
						back(t, l, times, canon)
						right++
					} else {
						notBack(t, l, times, api.ErrNot)
					}
				}
			}
			if right == 0 || right > len(canonOf) {
				t.Fatalf("of %d Turns, %d are read", len(canonOf), right)
			}
		}
	}
}

// P24.2, P24.3: Back of every short row's Turn, as Canon, however many numbers its times are.
func TestBackOfEveryTurn(t *testing.T) {
	for letters, longest := range fewLetters() {
		for n := range min(longest, 6) + 1 {
			for words := range shortRows(n, letters) {
				l, times, e := Turn(byteLists(words))
				got, f := Back(l, times)
				if e != api.OK || f != api.OK || !slices.EqualFunc(got, necklace.Canon(byteLists(words)), bytes.Equal) {
					t.Fatalf("%q comes back as %q, %v, %v", words, got, e, f)
				}
			}
		}
	}
}

// P24.2: any bytes at all are the Turn of some words, each of them its root once; how many there are, just one number tells.
func TestAnyBytes(t *testing.T) {
	number := draw()
	for range 1500 {
		l := drawnText(number, number(40), byte(number(bytesInAll)), 1+number(6))
		right := 0
		var words [][]byte
		for many := range len(l) + 1 {
			if got, e := Back([]byte(l), slices.Repeat([]int{1}, many)); e == api.OK {
				right++
				words = got
			}
		}
		if right != 1 {
			t.Fatalf("with %d numbers of ones, %q is a Turn", right, l)
		}
		turn(t, asTexts(words), l, slices.Repeat([]int{1}, len(words)))
		all(t, asTexts(words)...)
	}
}

// P24.1, P24.2, W5: no words, nil or empty, are turned to nothing, and come back.
func TestNothing(t *testing.T) {
	for _, words := range [][][]byte{nil, {}, make([][]byte, 0, 3), make([][]byte, api.MaxWords+1)[:0], byteLists([]string{"a", "b"})[2:]} {
		if l, times, e := Turn(words); e != api.OK || len(l)+len(times) != 0 {
			t.Errorf("Turn of no words is %q, %v, %v", l, times, e)
		}
	}
	for _, l := range [][]byte{nil, {}, []byte("ab")[:0], make([]byte, api.MaxText+1)[:0]} {
		for _, times := range [][]int{nil, []int{1, 1}[:0], []int{1}[1:], make([]int, api.MaxWords+1)[:0]} {
			if words, e := Back(l, times); e != api.OK || len(words) != 0 {
				t.Errorf("Back of nothing is %q, %v", words, e)
			}
		}
		for _, times := range [][]int{{0}, {1}, {-1}, {2}, {0, 0}, {1, -1}, {1, 1}, {math.MaxInt}, {math.MinInt}, make([]int, api.MaxWords)} {
			notBack(t, string(l), times, api.ErrNot)
		}
	}
	for _, l := range []string{"a", "\x00", "ab", "aa", "bbaa"} {
		notBack(t, l, nil, api.ErrNot)
		notBack(t, l, []int{1}[1:], api.ErrNot)
	}
}

// P24.1, P24.2: one word of one byte, and two, whichever they are: as one word and as two.
func TestOneAndTwo(t *testing.T) {
	for one := range bytesInAll {
		s := string([]byte{byte(one)})
		turn(t, []string{s}, s, []int{1})
		back(t, s, []int{1}, []string{s})
		turn(t, []string{s, s}, s+s, []int{1, 1})
		turn(t, []string{s + s}, s+s, []int{2})
		for other := range bytesInAll {
			r := string([]byte{byte(other)})
			all(t, s, r)
			all(t, s+r)
		}
	}
}

// P24.1, P24.2: one byte again and again, in one word or in several: the bytes say nothing, the times all of it.
func TestOneByteAgain(t *testing.T) {
	for _, b := range []string{"\x00", "\x01", "a", "\x7f", "\x80", "\xff"} {
		for n := 1; n <= 60; n++ {
			l := strings.Repeat(b, n)
			turn(t, []string{l}, l, []int{n})
			back(t, l, []int{n}, []string{l})
			turn(t, strings.Split(l, ""), l, slices.Repeat([]int{1}, n))
			back(t, l, slices.Repeat([]int{1}, n), slices.Repeat([]string{b}, n))
			for part := 1; part < n; part++ {
				turn(t, []string{l[part:], l[:part]}, l, []int{min(part, n-part), max(part, n-part)})
				if times := []int{part, n - part}; part <= n-part {
					back(t, l, times, []string{l[:part], l[part:]})
				} else {
					notBack(t, l, times, api.ErrNot)
				}
			}
			notBack(t, l, []int{n - 1}, api.ErrNot)
			notBack(t, l, []int{n + 1}, api.ErrNot)
		}
	}
}

// P24.1, P24.2: all bytes there are, as a word, and as words of one byte each, in any order.
func TestAllBytes(t *testing.T) {
	up := make([]byte, bytesInAll)
	for i := range up {
		up[i] = byte(i)
	}
	down := slices.Clone(up)
	slices.Reverse(down)
	var single []string
	for _, b := range down {
		single = append(single, string([]byte{b}))
	}
	turn(t, []string{string(up)}, "\xff"+string(up[:255]), []int{1})
	turn(t, single, string(up), slices.Repeat([]int{1}, bytesInAll))
	all(t, string(up))
	all(t, string(down))
	all(t, single...)
	all(t, append(single, string(up), string(down))...)
	all(t, string(up)+string(up), string(up), string(down)+string(down))
}

// P24.1: rows that are the same but for their words' order and rotations have one Turn.
func TestOrderAndRotationsDoNotMatter(t *testing.T) {
	for _, words := range [][]string{
		{"ba", "abab", "a"}, {"b", "ab", "ba", "abab"}, {"a", "aa", "aaa", "aab", "b"}, {"\xff", "\x00", "\x00\xff", "\xff\x00\x00"},
		{"banana", "nab", "ana"}, {"x", "x", "xx", "x"},
	} {
		l, times := turned(words), timesInWords(words)
		for _, order := range orders(len(words)) {
			row := make([]string, len(words))
			for i, from := range order {
				row[i] = rotated(words[from], i%len(words[from]))
			}
			turn(t, row, l, times)
		}
		for at, word := range words {
			for i := range len(word) {
				turn(t, with(words, at, rotated(word, i)), l, times)
			}
		}
	}
	number := draw()
	for range 500 {
		words := drawnWords(number, 12, 9, 'a', 1+number(4))
		l, times := turned(words), timesInWords(words)
		for range 5 {
			turn(t, shuffled(number, words), l, times)
		}
	}
}

// P24.1, P24.2: a word as often as another row has it at once is the same bytes, told apart by the times alone.
func TestTimesAlone(t *testing.T) {
	for _, root := range []string{"a", "\x00", "\xff", "ab", "aab", "abb", "\x00\xff", "abcabd", "mississippi", "\x00\x00\x01"} {
		for n := 1; n <= 12; n++ {
			l := turned([]string{strings.Repeat(root, n)})
			seen := map[string]int{}
			for words := range partings(strings.Repeat("a", min(n, 9))) {
				var row []string
				for _, word := range words {
					row = append(row, strings.Repeat(root, len(word)))
				}
				row[0] += strings.Repeat(root, n-min(n, 9))
				times := timesInWords(row)
				turn(t, row, l, times)
				back(t, l, times, canonInWords(row))
				seen[told("", times)]++
			}
			if n > 1 && len(seen) < 2 {
				t.Errorf("%q is told by %d rows of times", l, len(seen))
			}
		}
	}
}

// P24.2: times that would be those of another row: two roots' times changed about, or one root's in another order.
func TestTimesOfOthers(t *testing.T) {
	row := []string{"a", "aa", "aaa", "ab", "ab", "ababab", "b", "bbbb"}
	l := turned(row)
	times := []int{1, 2, 3, 1, 1, 3, 1, 4}
	back(t, l, times, row)
	for i := range times {
		for j := range i {
			other := swapped(times, i, j)
			if slices.Equal(other, times) {
				continue
			}
			notBack(t, l, other, api.ErrNot)
		}
		for _, n := range []int{math.MinInt, -1, 0, times[i] - 1, times[i] + 1, times[i] + 2, 2 * times[i], 100, math.MaxInt} {
			notBack(t, l, with(times, i, n), api.ErrNot)
		}
		notBack(t, l, slices.Delete(slices.Clone(times), i, i+1), api.ErrNot)
		for _, n := range []int{math.MinInt, -1, 0, 1, 2, math.MaxInt} {
			notBack(t, l, slices.Insert(slices.Clone(times), i, n), api.ErrNot)
		}
	}
	for _, n := range []int{math.MinInt, -1, 0, 1, 2, math.MaxInt} {
		notBack(t, l, append(slices.Clone(times), n), api.ErrNot)
	}
	back(t, l, []int{6, 5, 1, 4}, []string{"aaaaaa", "ababababab", "b", "bbbb"})
	back(t, l, []int{6, 5, 5}, []string{"aaaaaa", "ababababab", "bbbbb"})
	back(t, l, slices.Repeat([]int{1}, 16), strings.Split("a,a,a,a,a,a,ab,ab,ab,ab,ab,b,b,b,b,b", ","))
	notBack(t, l, []int{6, 10}, api.ErrNot)
	notBack(t, l, []int{16}, api.ErrNot)
	notBack(t, l, []int{5, 6, 5}, api.ErrNot)
	notBack(t, l, []int{7, 4, 5}, api.ErrNot)
	notBack(t, l, []int{6, 4, 6}, api.ErrNot)
}

// P24.2, W10: numbers that are far too great or too small are not so many times, though their sum, or how many bytes they
// would be, be right where they wrap.
func TestFarTimes(t *testing.T) {
	const quarter = 1 << (strconv.IntSize - 2)
	for _, times := range [][]int{
		{4, quarter, quarter, quarter, quarter}, {quarter, quarter, quarter, quarter, 4}, {quarter, quarter, quarter, quarter + 4},
		{math.MaxInt, math.MaxInt, 6}, {6, math.MaxInt, math.MaxInt}, {math.MinInt, math.MinInt, 4}, {math.MinInt, math.MinInt + 4},
		{quarter, 4}, {math.MaxInt}, {math.MinInt}, {math.MaxInt, 5}, {5, -1}, {-1, 5}, {2, 2, math.MaxInt}, {4, math.MaxInt},
		{quarter}, {quarter + 1}, {quarter + 2}, {quarter + 4}, {1 << 32}, {1<<32 + 4}, {4 + 1<<31}, {-4}, {-4, 8}, {-2, -2}, {1 << 16}, {260},
	} {
		for _, l := range []string{"aaaa", "bbbbaaaa", "bb", "ba", "", "\x00\x00\x00\x00"} {
			notBack(t, l, times, api.ErrNot)
		}
	}
}

// someWords are rows of words of all kinds, none of them empty.
func someWords() [][]string {
	number := draw()
	list := [][]string{
		nil, {"a"}, {"aa"}, {"ab"}, {"ba"}, {"ab", "ab"}, {"abab"}, {"ba", "abab", "a"}, {"banana"}, {"banana", "ananab", "nab"},
		{"abcabc", "abc", "bcabca", "cba"}, {"\x00\xff", "\xff", "\x00", "\x00\x00"}, {"mississippi", "ssippi", "issippimiss", "i", "ii"},
		{"zyx", "wv", "u"}, {joined(34), joined(21), joined(13)}, {repeated("aab", 33), "aab"}, {"a", "a", "a"},
	}
	for _, below := range []int{1, 2, 3, 26, 150} {
		list = append(list, drawnWords(number, 10, 6, 'a', below))
	}
	return list
}

// P24.1, P24.2: Turns with one byte changed, or two changed about, or with a byte more or fewer: by the times that they had
// they are the Turn of just those words that come back, or of none.
func TestTurnsChanged(t *testing.T) {
	right, wrong := 0, 0
	hold := func(l []byte, times []int) {
		words, e := Back(l, times)
		if e == api.OK {
			turn(t, asTexts(words), string(l), times)
			all(t, asTexts(words)...)
			right++
			return
		}
		wrong++
		// By ones alone any bytes are a Turn: these are all roots, and no way to part them into words has these times.
		if e != api.ErrNot || isTurn(t, l, times) {
			t.Fatalf("Back(%q, %v) is %v", l, times, e)
		}
	}
	for _, words := range someWords() {
		l, times := []byte(turned(words)), timesInWords(words)
		for i, b := range l {
			for _, other := range []byte{b + 1, 0, 0xff} {
				hold(with(l, i, other), times)
			}
			for j := range i {
				if i-j < 3 || (i+j)%7 == 0 {
					hold(swapped(l, i, j), times)
				}
			}
			hold(slices.Delete(slices.Clone(l), i, i+1), times)
			hold(slices.Insert(slices.Clone(l), i, 'a'), times)
		}
	}
	if right == 0 || wrong == 0 {
		t.Errorf("%d are right, %d wrong", right, wrong)
	}
}

// isTurn tells whether words are turned to (l, times): whether the roots that stand side by side can be taken so many at a time.
func isTurn(t *testing.T, l []byte, times []int) bool {
	t.Helper()
	var roots []string
	for many := 0; ; many++ {
		if words, e := Back(l, slices.Repeat([]int{1}, many)); e == api.OK {
			roots = asTexts(words)
			break
		}
	}
	var words []string
	for _, n := range times {
		if n < 1 || n > len(roots) {
			return false
		}
		words = append(words, strings.Join(roots[:n], ""))
		roots = roots[n:]
	}
	return len(roots) == 0 && turned(words) == string(l) && slices.Equal(timesInWords(words), times)
}

// P24.1, P24.3: words of no plain rule, of few letters and of many: longer ones, powers of one root, words of one ring, and
// words that come again.
func TestDrawnWords(t *testing.T) {
	number := draw()
	for range 1500 {
		from := byte(number(bytesInAll))
		below := 1 + number(bytesInAll-1)
		if number(2) == 0 {
			below = 1 + number(4)
		}
		words := drawnWords(number, 12, 9, from, below)
		all(t, words...)
		all(t, slices.Concat(words, shuffled(number, words))...)
		if len(words) > 0 {
			all(t, strings.Join(words, ""), words[0], strings.Repeat(words[0], 2))
		}
	}
	for range 60 {
		all(t, drawnText(number, 1+number(300), 'a', 1+number(5)), drawnText(number, 1+number(300), 'a', 1+number(5)))
		all(t, drawnWords(number, 9, 40, 'a', 2)...)
	}
	for n := range 60 {
		all(t, joined(n+1), joined(n/2+1), joined(n/3+1))
	}
}

// P24.1, P24.2: two roots, one the beginning of the other one, too, each again and again.
func TestTwoRoots(t *testing.T) {
	var roots []string
	for n := 1; n <= 6; n++ {
		for s := range texts(n, "ab") {
			if ringOf(s) == (ring{s, 1}) {
				roots = append(roots, s)
			}
		}
	}
	for _, u := range roots {
		for _, v := range roots {
			all(t, u, v)
			all(t, u+u, v, v)
			all(t, v+v+v, u, v+v, u+u, v)
		}
	}
}

// P24.1, W3, W4: an empty word, nil or not, wherever it stands and how often, is ErrArg; but if there are too many words or
// bytes besides, that comes first.
func TestEmptyWords(t *testing.T) {
	text := []byte("abab")
	for _, empty := range [][]byte{nil, {}, text[:0], text[4:], text[2:2:2]} {
		notTurned(t, [][]byte{empty}, api.ErrArg)
		notTurned(t, [][]byte{empty, empty}, api.ErrArg)
		notTurned(t, slices.Repeat([][]byte{empty}, api.MaxWords), api.ErrArg)
		notTurned(t, slices.Repeat([][]byte{empty}, api.MaxWords+1), api.ErrLong)
		for _, words := range someWords() {
			for at := range len(words) + 1 {
				notTurned(t, slices.Insert(byteLists(words), at, empty), api.ErrArg)
				notTurned(t, slices.Insert(byteLists(words), at, empty, empty), api.ErrArg)
			}
		}
		full, more := make([]byte, api.MaxText), make([]byte, api.MaxText+1)
		notTurned(t, [][]byte{full, empty}, api.ErrArg)
		notTurned(t, [][]byte{empty, full}, api.ErrArg)
		notTurned(t, [][]byte{more, empty}, api.ErrLong)
		notTurned(t, [][]byte{empty, more}, api.ErrLong)
		notTurned(t, [][]byte{empty, full, {'a'}}, api.ErrLong)
		notTurned(t, [][]byte{full, empty, {'a'}}, api.ErrLong)
		notTurned(t, slices.Insert(slices.Repeat([][]byte{{'a'}}, api.MaxWords-1), 500, empty), api.ErrArg)
		notTurned(t, slices.Insert(slices.Repeat([][]byte{{'a'}}, api.MaxWords), 500, empty), api.ErrLong)
		notTurned(t, slices.Insert(slices.Repeat([][]byte{full}, api.MaxWords), 0, empty), api.ErrLong)
	}
}

// P24.1, P24.2: MaxWords words are turned, one more is not; nor are as many times read.
func TestManyWords(t *testing.T) {
	number := draw()
	for _, n := range []int{1, 2, api.MaxWords - 1, api.MaxWords} {
		all(t, slices.Repeat([]string{"a"}, n)...)
		all(t, slices.Repeat([]string{"ba"}, n)...)
		var words []string
		for range n {
			words = append(words, drawnText(number, 1+number(3), 'a', 3))
		}
		all(t, words...)
	}
	for _, n := range []int{api.MaxWords + 1, api.MaxWords + 2, 2 * api.MaxWords, 1 << 16, 1 << 20} {
		notTurned(t, slices.Repeat([][]byte{{'a'}}, n), api.ErrLong)
		ones := slices.Repeat([]int{1}, n)
		notBack(t, strings.Repeat("a", min(n, api.MaxText)), ones, api.ErrLong)
		notBack(t, "", ones, api.ErrLong)
		notBack(t, "", make([]int, n), api.ErrLong)
		notBack(t, "ab", slices.Repeat([]int{math.MinInt}, n), api.ErrLong)
		notBack(t, repeated("ba", api.MaxText+1), ones, api.ErrLong)
		back(t, strings.Repeat("a", api.MaxWords), ones[:api.MaxWords], slices.Repeat([]string{"a"}, api.MaxWords))
		notBack(t, strings.Repeat("a", api.MaxWords+1), ones[:api.MaxWords], api.ErrNot)
		if l, times, e := Turn(slices.Repeat([][]byte{{'a'}}, n)[:api.MaxWords]); e != api.OK || len(l) != api.MaxWords || len(times) != api.MaxWords {
			t.Errorf("with %d words in the room behind: %v", n-api.MaxWords, e)
		}
	}
}

// place is a rotation: of which word, and the byte that it begins with.
type place struct {
	word string
	at   int
}

// comparePlaces is how a rotation without end is to another one, byte by byte.
func comparePlaces(p, q place) int {
	i, j := p.at, q.at
	for range len(p.word) + len(q.word) {
		if p.word[i] != q.word[j] {
			return cmp.Compare(p.word[i], q.word[j])
		}
		i, j = (i+1)%len(p.word), (j+1)%len(q.word)
	}
	return 0
}

// turnedByPlaces is as turned, but no rotation is laid out: of long words these would be too many bytes.
func turnedByPlaces(words []string) string {
	var all []place
	for _, word := range words {
		for i := range len(word) {
			all = append(all, place{word, i})
		}
	}
	slices.SortFunc(all, comparePlaces)
	var l []byte
	for _, p := range all {
		l = append(l, p.word[(p.at+len(p.word)-1)%len(p.word)])
	}
	return string(l)
}

// stepped is the roots of the words that are turned to l, in order: the bytes sorted, those that are the same as they stood,
// are what all rotations begin with; each leads on to the one that begins with the next byte.
func stepped(l string) []string {
	next := make([]int, len(l))
	for i := range next {
		next[i] = i
	}
	slices.SortStableFunc(next, func(i, j int) int { return cmp.Compare(l[i], l[j]) })
	var roots []string
	for least := range next {
		var root []byte
		for at := least; next[at] >= 0; {
			to := next[at]
			root = append(root, l[to])
			next[at] = -1
			at = to
		}
		if root != nil {
			roots = append(roots, string(root))
		}
	}
	return roots
}

// parted is words as their roots, so many times.
func parted(words []string, times []int) []string {
	var roots []string
	for i, word := range words {
		for range times[i] {
			roots = append(roots, word[:len(word)/times[i]])
		}
	}
	return roots
}

// TestSteppedAndByPlaces hold what tells of long words against the words.
func TestSteppedAndByPlaces(t *testing.T) {
	number := draw()
	list := someWords()
	for range 500 {
		list = append(list, drawnWords(number, 9, 9, 'a', 1+number(4)))
	}
	for n := range 8 {
		list = slices.AppendSeq(list, shortRows(n, "ab"))
	}
	for _, words := range list {
		l := turned(words)
		if turnedByPlaces(words) != l || !slices.Equal(stepped(l), parted(canonInWords(words), timesInWords(words))) {
			t.Fatalf("%q is turned to %q, of the roots %q", words, turnedByPlaces(words), stepped(l))
		}
	}
}

// cut is a text in words of at most so many bytes each.
func cut(s string, most int) []string {
	var words []string
	for len(s) > most {
		words = append(words, s[:most])
		s = s[most:]
	}
	return append(words, s)
}

// longWords are rows of at most MaxWords words, of n bytes in all, of all kinds.
func longWords(n int) [][]string {
	number := draw()
	few, many := drawnText(number, n, 'a', 2), drawnText(number, n, 0, bytesInAll)
	piece := (n + api.MaxWords - 1) / api.MaxWords
	hundred := repeated(drawnText(number, 100, 0, bytesInAll), n)
	var growing []string
	for rest := n; rest > 0; {
		growing = append(growing, repeated("ab", min(rest, 2+2*len(growing))))
		rest -= len(growing[len(growing)-1])
	}
	return [][]string{
		{repeated("a", n)}, {repeated("\x00", n)}, {repeated("ba", n)}, {repeated("aabaabab", n)}, {joined(n)}, {hundred}, {few}, {many},
		{repeated("a", n-1) + "b"}, {"b" + repeated("a", n-1)}, {repeated("a", n/2), repeated("a", n-n/2)}, {few[:n/2], few[:n/2]},
		cut(repeated("a", n), piece), cut(repeated("ba", n), piece), cut(repeated("ab", n), 2*piece), cut(hundred, 100), cut(joined(n), piece),
		cut(few, piece), cut(many, piece), cut(few, n/3), cut(repeated(string(many[:piece]), n), piece), growing,
	}
}

// P24.1 to P24.3: words of MaxText bytes in all, and of fewer: turned, and back; and their bytes taken for a Turn.
func TestManyBytes(t *testing.T) {
	for _, n := range []int{5000, api.MaxText} {
		for which, words := range longWords(n) {
			lists := byteLists(words)
			canon := necklace.Canon(lists)
			_, wantTimes := necklace.Roots(lists)
			l, times, e := Turn(lists)
			if e != api.OK || !slices.Equal(times, wantTimes) || !slices.Equal(stepped(string(l)), parted(asTexts(canon), times)) {
				t.Fatalf("Turn of row %d, of %d bytes, is wrong: %v", which, n, e)
			}
			if got, e := Back(l, times); e != api.OK || !slices.EqualFunc(got, canon, bytes.Equal) {
				t.Fatalf("Back of the Turn of row %d, of %d bytes, is wrong: %v", which, n, e)
			}
			notBack(t, string(l), times[1:], api.ErrNot)
			notBack(t, string(l), with(times, 0, times[0]+1), api.ErrNot)
			anyBytes := strings.Join(words, "")
			roots := stepped(anyBytes)
			ones := slices.Repeat([]int{1}, len(roots))
			if len(roots) > api.MaxWords {
				notBack(t, anyBytes, ones, api.ErrLong)
				continue
			}
			back(t, anyBytes, ones, roots)
			if l, times, e := Turn(byteLists(roots)); e != api.OK || string(l) != anyBytes || !slices.Equal(times, ones) {
				t.Fatalf("Turn of the Back of row %d, of %d bytes, is wrong: %v", which, n, e)
			}
		}
	}
}

// P24.1: long words by the words, where two rotations soon differ, or are of short words.
func TestManyBytesInWords(t *testing.T) {
	number := draw()
	for _, n := range []int{3000, 20000, api.MaxText} {
		for which, words := range [][]string{
			cut(repeated("a", n), 100), cut(repeated("ab", n), 100), cut(repeated("aabaabab", n), 100), {drawnText(number, n, 0, bytesInAll)},
			cut(drawnText(number, n, 'a', 2), 100), cut(drawnText(number, n, 'a', 26), n/3), cut(drawnText(number, n, 0, bytesInAll), 101),
		} {
			if l, _, e := Turn(byteLists(words)); e != api.OK || string(l) != turnedByPlaces(words) {
				t.Errorf("Turn of row %d, of %d bytes, is wrong: %v", which, n, e)
			}
		}
	}
}

// P24.1, P24.2, W3: more than MaxText bytes in all are ErrLong, in one word or in several, and no more is answered; so many
// there are just by what stands ahead of the end, not by the room behind it.
func TestTooLong(t *testing.T) {
	for _, n := range []int{api.MaxText + 1, api.MaxText + 2, 2 * api.MaxText, 1 << 20} {
		for _, b := range []string{"a", "\x00", "ba", "banana"} {
			s := []byte(repeated(b, n))
			for _, words := range [][][]byte{
				{s}, {s[:1], s[1:]}, {s[1:], s[:1]}, {s[:n/2], s[n/2:]}, {s[:api.MaxText], s[api.MaxText:]}, {s[api.MaxText:], s[:api.MaxText]},
				{s, s}, {s[:1], s}, {s[:api.MaxText/2], s[:1], s[:api.MaxText/2]}, slices.Repeat([][]byte{s[:101]}, api.MaxWords),
				append(slices.Repeat([][]byte{s[:100]}, api.MaxWords-1), s[:101]),
			} {
				notTurned(t, words, api.ErrLong)
			}
			for _, times := range [][]int{nil, {1}, {n}, {0}, {math.MaxInt}, slices.Repeat([]int{1}, api.MaxWords), make([]int, api.MaxWords+1)} {
				notBack(t, string(s), times, api.ErrLong)
				notBack(t, string(s[:api.MaxText+1]), times, api.ErrLong)
			}
			words := []string{string(s[:api.MaxText])}
			l, times, e := Turn([][]byte{s[:api.MaxText]})
			if e != api.OK || !slices.Equal(stepped(string(l)), parted(asTexts(necklace.Canon(byteLists(words))), times)) {
				t.Errorf("with %d bytes of room behind, Turn is %v", n-api.MaxText, e)
			}
			l = append(l, s[api.MaxText:]...)
			if got, e := Back(l[:api.MaxText], times); e != api.OK || !slices.EqualFunc(got, necklace.Canon(byteLists(words)), bytes.Equal) {
				t.Errorf("with %d bytes of room behind, Back is %v", n-api.MaxText, e)
			}
		}
	}
	// More bytes than there is memory for: one long text is each of the words.
	long := make([]byte, 1<<26)
	notTurned(t, slices.Repeat([][]byte{long}, api.MaxWords), api.ErrLong)
	notTurned(t, slices.Repeat([][]byte{long}, api.MaxWords+1), api.ErrLong)
}

// Words of MaxText bytes in all are turned, and back, in well under a second: the shortest of some calls, as the machine may be
// busy with others.
func TestManyBytesSoon(t *testing.T) {
	const wellUnder = time.Second / 2
	soon := func(call func()) bool {
		for range 5 {
			began := time.Now()
			call()
			if time.Since(began) < wellUnder {
				return true
			}
		}
		return false
	}
	for which, words := range longWords(api.MaxText) {
		lists := byteLists(words)
		anyBytes := []byte(strings.Join(words, ""))
		l, times, _ := Turn(lists)
		if !soon(func() { Turn(lists) }) || !soon(func() { Back(l, times) }) || !soon(func() { Back(anyBytes, times) }) {
			t.Errorf("row %d takes %v and more", which, wellUnder)
		}
	}
}

// roomy is a list with so much room behind its end.
func roomy[V any](list []V, spare int) []V {
	return append(make([]V, 0, len(list)+spare), list...)
}

// roomyWords are words with so much room behind each, and behind them all.
func roomyWords(words []string, spare int) [][]byte {
	lists := roomy(byteLists(words), spare)
	for i, word := range lists {
		lists[i] = roomy(word, spare)
	}
	return lists
}

// marked lays one mark all over a list and the room behind it.
func marked[V any](list []V, mark V) {
	list = list[:cap(list)]
	for i := range list {
		list[i] = mark
	}
}

// isMarked tells whether a list and the room behind it have one mark all over.
func isMarked[V comparable](list []V, mark V) bool {
	return !slices.ContainsFunc(list[:cap(list)], func(v V) bool { return v != mark })
}

// answer is what both calls answer.
type answer struct {
	l     []byte
	times []int
	words [][]byte
}

// answers are what Turn answers for words, and Back for a Turn.
func answers(words [][]byte, l []byte, times []int) answer {
	var a answer
	a.l, a.times, _ = Turn(words)
	a.words, _ = Back(l, times)
	return a
}

// same holds such answers against what they are to be.
func same(t *testing.T, words []string, a answer) {
	t.Helper()
	if string(a.l) != turned(words) || !slices.Equal(a.times, timesInWords(words)) || !slices.Equal(asTexts(a.words), canonInWords(words)) {
		t.Fatalf("%q is turned to %q, %v, and back to %q", words, a.l, a.times, a.words)
	}
}

// again is what both calls answer for words in new memory and for their Turn.
func again(words []string) answer {
	return answers(byteLists(words), []byte(turned(words)), timesInWords(words))
}

// P24.3, W6: what is answered shares no memory with what is handed in or with another answer, no word with another one, nor
// the room behind them; and what it was written over with is not told of later.
func TestAnswersShareNothing(t *testing.T) {
	for _, words := range someWords() {
		for _, spare := range []int{0, 1, 16} {
			in, l, times := roomyWords(words, spare), roomy([]byte(turned(words)), spare), roomy(timesInWords(words), spare)
			one, two := answers(in, l, times), answers(in, l, times)
			lists := slices.Concat(one.words, two.words, in, [][]byte{one.l, two.l, l})
			numbers := [][]int{one.times, two.times, times}
			outer := [][][]byte{one.words, two.words, in}
			for i, list := range lists {
				marked(list, byte(i))
			}
			for i, list := range numbers {
				marked(list, -i)
			}
			for i, list := range outer {
				marked(list, slices.Repeat([]byte{'x'}, i+1))
			}
			for i, list := range lists {
				if !isMarked(list, byte(i)) {
					t.Errorf("two lists of bytes of %q share memory", words)
				}
			}
			for i, list := range numbers {
				if !isMarked(list, -i) {
					t.Errorf("two lists of times of %q share memory", words)
				}
			}
			for i, list := range outer {
				if slices.ContainsFunc(list[:cap(list)], func(word []byte) bool { return len(word) != i+1 }) {
					t.Errorf("two lists of words of %q share memory", words)
				}
			}
			same(t, words, again(words))
		}
	}
}

// P24.3, W6: what is answered is another list than what is handed in, even where it is the same.
func TestTheSameBytes(t *testing.T) {
	for _, was := range []string{"a", "aa", "aaaaaaaaa", "\x00\x00"} {
		word, times := []byte(was), []int{len(was)}
		in := [][]byte{word}
		a := answers(in, word, times)
		if string(a.l) != was || !slices.Equal(a.times, times) || len(a.words) != 1 || string(a.words[0]) != was {
			t.Errorf("%q is turned to %q, %v, and back to %q", was, a.l, a.times, a.words)
		}
		marked(a.l, 'x')
		marked(a.words[0], 'x')
		marked(a.times, 7)
		marked(a.words, nil)
		if string(word) != was || times[0] != len(was) || len(in[0]) != len(was) {
			t.Errorf("%q has become %q, %v", was, word, times)
		}
	}
}

// inOneRoom are words that lie one behind the other, so that each one's room is what the others are; ahead of them and behind
// there is something else.
func inOneRoom(words []string, by byte) (room []byte, lists [][]byte) {
	room = []byte{by, by}
	for _, word := range words {
		room = append(room, word...)
	}
	room = append(room, by, by, by)
	from := 2
	for _, word := range words {
		lists = append(lists, room[from:from+len(word)])
		from += len(word)
	}
	return room, lists
}

// P24.3, W6: neither what is handed in nor the room around it is changed, and that room is not told of.
func TestWhatIsHandedInStays(t *testing.T) {
	for _, by := range []byte{0, 1, 'a', 'b', 'n', 0x80, 0xff} {
		for _, words := range someWords() {
			room, lists := inOneRoom(words, by)
			turnRoom, turns := inOneRoom([]string{turned(words)}, by)
			numbers := slices.Concat([]int{int(by), 1}, timesInWords(words), []int{1, int(by), 1})
			whole := append(slices.Clone(lists), []byte{by}, nil)
			wasRoom, wasTurn, wasNumbers, wasWhole := slices.Clone(room), slices.Clone(turnRoom), slices.Clone(numbers), slices.Clone(whole)
			same(t, words, answers(whole[:len(words)], turns[0], numbers[2:2+len(words)]))
			notTurned(t, whole, api.ErrArg)
			Back(turnRoom, numbers)
			if !bytes.Equal(room, wasRoom) || !bytes.Equal(turnRoom, wasTurn) || !slices.Equal(numbers, wasNumbers) {
				t.Errorf("%q, %q, %v have become %q, %q, %v", wasRoom, wasTurn, wasNumbers, room, turnRoom, numbers)
			}
			for i, word := range whole {
				if len(word) != len(wasWhole[i]) || cap(word) != cap(wasWhole[i]) || len(word) > 0 && &word[0] != &wasWhole[i][0] {
					t.Errorf("of %q word %d is another one", words, i)
				}
			}
		}
	}
}

// P24.1, P24.2, W6: a word that is handed in more than once, the same memory each time, or pieces of one another, too.
func TestWordsOfOneMemory(t *testing.T) {
	word := []byte("abab")
	a := answers([][]byte{word, word, word[:2], word[2:], word[1:3], word}, []byte(strings.Repeat("b", 9)+strings.Repeat("a", 9)), []int{1, 1, 1, 2, 2, 2})
	same(t, []string{"abab", "abab", "ab", "ab", "ba", "abab"}, a)
	if string(word) != "abab" {
		t.Errorf("abab has become %q", word)
	}
}

// P24.3, W2, W6, W7: what was handed in is not kept: written over, with the room behind it, it changes no answer, be it one
// that was given or a later one.
func TestNothingIsKept(t *testing.T) {
	for _, words := range someWords() {
		for _, spare := range []int{0, 1, 16} {
			in, l, times := roomyWords(words, spare), roomy([]byte(turned(words)), spare), roomy(timesInWords(words), spare)
			a := answers(in, l, times)
			for _, word := range in {
				marked(word, 0xfe)
			}
			marked(l, 0xfe)
			marked(times, -5)
			same(t, words, a)
			all(t, asTexts(in)...)
			for i, word := range in {
				copy(word, words[i])
			}
			copy(l, turned(words))
			copy(times, timesInWords(words))
			same(t, words, answers(in, l, times))
			marked(in, nil)
			same(t, words, a)
		}
	}
}

// P24.3, W2, W7: what is answered stays, whatever is called later, errors among it, and is answered again.
func TestAnswersStay(t *testing.T) {
	long := make([]byte, api.MaxText+1)
	for _, words := range someWords() {
		a := again(words)
		for _, later := range someWords() {
			again(later)
		}
		answers([][]byte{long}, long, nil)
		answers([][]byte{nil}, []byte("ab"), []int{2})
		same(t, words, a)
		same(t, words, again(words))
	}
}

// FuzzExt takes words from bytes, parted where a byte has some digits, by some of their lower digits, too, and times from
// others.
func FuzzExt(f *testing.F) {
	f.Add([]byte("bananabanana"), byte(0xff), []byte{1, 1})
	f.Add([]byte("abababab"), byte(2), []byte{4})
	f.Add([]byte("bbaa"), byte(1), []byte{1, 3})
	f.Add([]byte{}, byte(0), []byte{})
	f.Add([]byte{255, 0, 254}, byte(3), []byte{255})
	f.Fuzz(func(t *testing.T, b []byte, few byte, numbers []byte) {
		s := slices.Clone(b[:min(len(b), 60)])
		var words []string
		from := 0
		for i, v := range s {
			// Of few letters: the fuzzer seldom makes words that come again.
			s[i] = v % max(few, 1)
			if v%7 == 3 || i+1 == len(s) {
				words = append(words, string(s[from:i+1]))
				from = i + 1
			}
		}
		all(t, words...)
		all(t, slices.Concat(words, words)...)
		var times []int
		var powers []string
		for _, n := range numbers[:min(len(numbers), 9)] {
			times = append(times, int(int8(n)))
			if len(words) > 0 {
				powers = append(powers, strings.Repeat(words[int(n)%len(words)], 1+int(n)%3))
			}
		}
		all(t, slices.Concat(powers, words)...)
		got, e := Back(s, times)
		if right := isTurn(t, s, times); right != (e == api.OK) || right && turned(asTexts(got)) != string(s) {
			t.Errorf("Back(%q, %v) is %q, %v", s, times, got, e)
		}
	})
}
