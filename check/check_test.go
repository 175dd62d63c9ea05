package check

import (
	"bytes"
	"cmp"
	"iter"
	"math"
	"slices"
	"testing"
	"time"

	"whorl/api"
	"whorl/kasai"
	"whorl/phi"
	"whorl/sais"
)

// rows are all rows of n numbers, each least to greatest. Each is new, so that none is left out nor comes again where one
// that was handed in is changed.
func rows(n, least, greatest int) iter.Seq[[]int] {
	return func(yield func([]int) bool) {
		row := slices.Repeat([]int{least}, n)
		for yield(slices.Clone(row)) {
			at := n - 1
			for at >= 0 && row[at] == greatest {
				row[at] = least
				at--
			}
			if at < 0 {
				return
			}
			row[at]++
		}
	}
}

// texts are all texts of n of these letters. Each is new.
func texts(n int, letters string) iter.Seq[[]byte] {
	return func(yield func([]byte) bool) {
		for row := range rows(n, 0, len(letters)-1) {
			text := make([]byte, n)
			for i, v := range row {
				text[i] = letters[v]
			}
			if !yield(text) {
				return
			}
		}
	}
}

// orders are all orders of n numbers: the shorter ones, each with the greatest number put in at each place.
func orders(n int) [][]int {
	if n == 0 {
		return [][]int{{}}
	}
	var all [][]int
	for _, a := range orders(n - 1) {
		for at := range n {
			all = append(all, slices.Insert(slices.Clone(a), at, n-1))
		}
	}
	return all
}

// stepped is the numbers 0 to n - 1, each a step further on than the one ahead of it, round and round; step and n have no
// divisor together.
func stepped(n, from, step int) []int {
	row := make([]int, n)
	for i := range row {
		row[i] = (from + i*step) % n
	}
	return row
}

// rising is the numbers from 0 on, n of them.
func rising(n int) []int { return stepped(n, 0, 1) }

// falling is the numbers from n - 1 down to 0.
func falling(n int) []int { return stepped(n, n-1, n-1) }

// backwards is a row from its end on.
func backwards(a []int) []int {
	row := slices.Clone(a)
	slices.Reverse(row)
	return row
}

// halves is an order whose neighbours go by turns from one half of the numbers to the other one.
func halves(n int) []int {
	row := rising(n)
	slices.SortStableFunc(row, func(i, j int) int { return cmp.Compare(i%((n+1)/2), j%((n+1)/2)) })
	return row
}

// swapped is a row with the numbers of two places changed for each other.
func swapped(a []int, i, j int) []int {
	row := slices.Clone(a)
	row[i], row[j] = row[j], row[i]
	return row
}

// with is a row with another number at a place.
func with(a []int, at, number int) []int {
	row := slices.Clone(a)
	row[at] = number
	return row
}

// draw hands over numbers of no plain rule, 0 to below - 1, the same ones each time.
func draw() func(below int) int {
	state := uint64(19)
	return func(below int) int {
		state = state*6364136223846793005 + 1442695040888963407
		return int(state>>33) % below
	}
}

// drawnOrder is an order of n numbers of no plain rule.
func drawnOrder(number func(below int) int, n int) []int {
	row := make([]int, 0, n)
	for v := range n {
		at := number(v + 1)
		row = append(row, v)
		row[v], row[at] = row[at], row[v]
	}
	return row
}

// drawnText is n bytes of no plain rule, each one of so many from a letter on.
func drawnText(number func(below int) int, n int, from byte, below int) []byte {
	var text []byte
	for range n {
		text = append(text, from+byte(number(below)))
	}
	return text
}

// repeated is n bytes of a word that comes again and again, the last time cut short or not.
func repeated(word string, n int) []byte {
	return bytes.Repeat([]byte(word), n/len(word)+1)[:n]
}

// joined is n bytes of the text whose beginnings are each the two shorter ones together: all of it comes again, but never
// for long by one period.
func joined(n int) []byte {
	one, two := []byte("a"), []byte("ab")
	for len(two) < n {
		one, two = two, slices.Concat(two, one)
	}
	return two[:n]
}

// endings is all places in order of their endings, each held against others.
func endings(s []byte) []int {
	return slices.SortedFunc(slices.Values(rising(len(s))), func(i, j int) int { return bytes.Compare(s[i:], s[j:]) })
}

// isOrder says whether each number from 0 on is there once: whether all of them, as they are sorted, are those.
func isOrder(a []int) bool {
	return slices.Equal(slices.Sorted(slices.Values(a)), rising(len(a)))
}

// isLess says whether ending i is less than ending j, byte by byte; what is the beginning of the other one is less.
func isLess(s []byte, i, j int) bool {
	for i < len(s) && j < len(s) {
		if s[i] != s[j] {
			return s[i] < s[j]
		}
		i, j = i+1, j+1
	}
	return j < len(s)
}

// saInWords is what SA is to answer.
func saInWords(s []byte, a []int) bool {
	if len(a) != len(s) || !isOrder(a) {
		return false
	}
	for at := 1; at < len(a); at++ {
		if !isLess(s, a[at-1], a[at]) {
			return false
		}
	}
	return true
}

// common is how many bytes two endings begin with alike, byte by byte.
func common(s []byte, i, j int) int {
	n := 0
	for i+n < len(s) && j+n < len(s) && s[i+n] == s[j+n] {
		n++
	}
	return n
}

// counts is how many bytes neighbours of an order have alike, counted for each of them.
func counts(s []byte, a []int) []int {
	alike := make([]int, len(a))
	for at := 1; at < len(a); at++ {
		alike[at] = common(s, a[at-1], a[at])
	}
	return alike
}

// lcpInWords is what LCP is to answer.
func lcpInWords(s []byte, a, h []int) bool {
	return saInWords(s, a) && slices.Equal(h, counts(s, a))
}

// sa holds SA against an answer.
func sa(t *testing.T, s []byte, a []int, want bool) {
	t.Helper()
	if got := SA(s, a); got != want {
		t.Fatalf("SA(%q, %v) is %t", s, a, got)
	}
}

// lcp holds LCP against an answer.
func lcp(t *testing.T, s []byte, a, h []int, want bool) {
	t.Helper()
	if got := LCP(s, a, h); got != want {
		t.Fatalf("LCP(%q, %v, %v) is %t", s, a, h, got)
	}
}

// check holds both against the words.
func check(t *testing.T, s []byte, a, h []int) {
	t.Helper()
	sa(t, s, a, saInWords(s, a))
	lcp(t, s, a, h, lcpInWords(s, a, h))
}

// nearly are rows that are not h, but differ by little: by each number one more and one less, by one number more, at either
// end, or fewer, by all of them.
func nearly(h []int) iter.Seq[[]int] {
	return func(yield func([]int) bool) {
		for at, v := range h {
			if !yield(with(h, at, v+1)) || !yield(with(h, at, v-1)) {
				return
			}
		}
		all := [][]int{append(slices.Clone(h), 0), append(slices.Clone(h), 1), append([]int{0}, h...)}
		if len(h) > 0 {
			all = append(all, h[1:], h[:len(h)-1], nil)
		}
		for _, row := range all {
			if !slices.Equal(row, h) && !yield(row) {
				return
			}
		}
	}
}

// checkNumbers holds both against the words by a row, with the numbers that its neighbours have alike and with such as are
// nearly these; of the right order, only the right numbers hold.
func checkNumbers(t *testing.T, s []byte, a []int) {
	t.Helper()
	right := saInWords(s, a)
	h := counts(s, a)
	check(t, s, a, h)
	for other := range nearly(h) {
		lcp(t, s, a, other, false)
	}
	// The right numbers do not make another order right.
	lcp(t, s, a, counts(s, endings(s)), right)
}

// refuse holds both against false: of a row that is none of a text's orders, whatever the numbers are.
func refuse(t *testing.T, s []byte, a []int) {
	t.Helper()
	sa(t, s, a, false)
	up := endings(s)
	for _, h := range [][]int{nil, make([]int, len(a)), make([]int, len(s)), rising(len(a)), counts(s, up), a, up} {
		lcp(t, s, a, h, false)
	}
}

// wrongOrders are orders that come about where endings are compared in other ways, or not to their ends.
func wrongOrders(s []byte) [][]int {
	n := len(s)
	up := endings(s)
	by := func(compare func(i, j int) int) []int {
		return slices.SortedStableFunc(slices.Values(rising(n)), compare)
	}
	turn := func(i int) []byte { return slices.Concat(s[i:], s[:i]) }
	padded := slices.Concat(s, []byte{0xff}, bytes.Repeat([]byte{0xff}, n))
	signed := func(i, j int) int {
		for i < n && j < n && s[i] == s[j] {
			i, j = i+1, j+1
		}
		if i == n || j == n {
			return cmp.Compare(j, i)
		}
		return cmp.Compare(int8(s[i]), int8(s[j]))
	}
	all := [][]int{
		by(func(i, j int) int { return bytes.Compare(turn(i), turn(j)) }),
		by(func(i, j int) int { return bytes.Compare(padded[i:], padded[j:]) }),
		by(func(i, j int) int { return bytes.Compare(s[:i], s[:j]) }),
		by(signed),
	}
	for h := 1; h < n; h *= 2 {
		all = append(all, by(func(i, j int) int { return bytes.Compare(s[i:min(i+h, n)], s[j:min(j+h, n)]) }))
	}
	return append(all, backwards(up), slices.Concat(up[n/3:], up[:n/3]), rising(n), falling(n), halves(n), stepped(n, n/2, 1))
}

// mostAlike is where in an order the two neighbours are that have most alike, by the place of the second one; 0 if there
// are none.
func mostAlike(h []int) int {
	most := min(1, max(len(h)-1, 0))
	for at, v := range h {
		if v > h[most] {
			most = at
		}
	}
	return most
}

// checkSome holds both against the words by the order of endings, by such with two places changed, and by some others.
func checkSome(t *testing.T, s []byte) {
	t.Helper()
	n := len(s)
	up := endings(s)
	h := counts(s, up)
	sa(t, s, up, true)
	lcp(t, s, up, h, true)
	for other := range nearly(h) {
		lcp(t, s, up, other, false)
	}
	if n > 1 {
		most := mostAlike(h)
		for _, at := range [][2]int{{0, n - 1}, {n / 2, n/2 - 1}, {0, 1}, {n - 2, n - 1}, {most - 1, most}} {
			a := swapped(up, at[0], at[1])
			sa(t, s, a, false)
			lcp(t, s, a, h, false)
			lcp(t, s, a, counts(s, a), false)
		}
	}
	number := draw()
	for _, a := range append(wrongOrders(s), drawnOrder(number, n), drawnOrder(number, n)) {
		check(t, s, a, counts(s, a))
		lcp(t, s, a, h, slices.Equal(a, up))
		lcp(t, s, up, counts(s, a), slices.Equal(counts(s, a), h))
	}
}

// P19.1: the chapter's example, and what chapters 13, 17 and 20 have as theirs.
func TestExample(t *testing.T) {
	sa(t, []byte("ab"), []int{1, 0}, false)
	sa(t, []byte("ab"), []int{0, 1}, true)
	lcp(t, []byte("ab"), []int{1, 0}, []int{0, 0}, false)
	lcp(t, []byte("ab"), []int{0, 1}, []int{0, 0}, true)
	sa(t, []byte("banana"), []int{5, 3, 1, 0, 4, 2}, true)
	lcp(t, []byte("banana"), []int{5, 3, 1, 0, 4, 2}, []int{0, 1, 3, 0, 0, 2}, true)
	sa(t, []byte("aa"), []int{1, 0}, true)
	sa(t, []byte("aa"), []int{0, 1}, false)
	lcp(t, []byte("aa"), []int{1, 0}, []int{0, 1}, true)
}

// P19.1: by hand.
func TestSomeTexts(t *testing.T) {
	for _, c := range []struct {
		s    string
		a, h []int
	}{
		{"mississippi", []int{10, 7, 4, 1, 0, 9, 8, 6, 3, 5, 2}, []int{0, 1, 1, 4, 0, 0, 1, 0, 2, 1, 3}},
		{"abracadabra", []int{10, 7, 0, 3, 5, 8, 1, 4, 6, 9, 2}, []int{0, 1, 4, 1, 1, 0, 3, 0, 0, 0, 2}},
		{"aaaa", []int{3, 2, 1, 0}, []int{0, 1, 2, 3}},
		{"abab", []int{2, 0, 3, 1}, []int{0, 2, 0, 1}},
		{"cba", []int{2, 1, 0}, []int{0, 0, 0}},
		{"\xff\x00\x80\x7f", []int{1, 3, 2, 0}, []int{0, 0, 0, 0}},
		{"\x00\x00", []int{1, 0}, []int{0, 1}},
	} {
		s := []byte(c.s)
		sa(t, s, c.a, true)
		lcp(t, s, c.a, c.h, true)
		for other := range nearly(c.h) {
			lcp(t, s, c.a, other, false)
		}
		for i := range c.a {
			for j := range i {
				sa(t, s, swapped(c.a, i, j), false)
				lcp(t, s, swapped(c.a, i, j), c.h, false)
				lcp(t, s, c.a, swapped(c.h, i, j), c.h[i] == c.h[j])
			}
		}
	}
	for _, c := range []struct {
		s string
		a []int
	}{
		{"abc", nil}, {"abc", []int{0}}, {"abc", []int{0, 1}}, {"abc", []int{2, 1}}, {"abc", []int{0, 1, 2, 3}},
		{"abc", []int{1, 2, 3}}, {"abc", []int{0, 1, 1}}, {"abc", []int{0, 0, 0}}, {"abc", []int{0, 1, 3}},
		{"abc", []int{-1, 0, 1}}, {"abc", []int{0, -2, 2}}, {"", []int{0}}, {"", []int{0, 1}}, {"", []int{-1}},
		{"a", nil}, {"a", []int{1}}, {"a", []int{-1}}, {"a", []int{0, 1}}, {"a", []int{1, 0}},
		// With the empty ending's place, as it is no place of a byte.
		{"banana", []int{6, 5, 3, 1, 0, 4, 2}}, {"banana", []int{6, 5, 3, 1, 0, 4}}, {"aaa", []int{3, 2, 1}}, {"ab", []int{2, 0, 1}},
		// The rotations of banana, and its endings from the last one on.
		{"banana", []int{5, 3, 1, 0, 2, 4}}, {"banana", []int{2, 4, 0, 1, 3, 5}},
		// By their first bytes alone, and by two.
		{"banana", []int{1, 3, 5, 0, 2, 4}}, {"banana", []int{5, 1, 3, 0, 2, 4}}, {"banana", []int{5, 1, 3, 0, 4, 2}},
		// An ending that is the beginning of another one is less, whatever bytes go on.
		{"\x00\x00", []int{0, 1}}, {"a\x00a", []int{1, 0, 2}}, {"\xff\xff", []int{0, 1}},
	} {
		refuse(t, []byte(c.s), c.a)
	}
}

// fewLetters are letters, and how many of them the texts have at most of which all are told.
func fewLetters() map[string]int {
	return map[string]int{"ab": 6, "abc": 5, "\x00\xff": 5, "\x7f\x80": 5, "abcd": 4, "\x00\x01\x7f\x80\xff": 4}
}

// P19.1: all short texts of a few letters, and all orders of their places, be they of endings or not: just one is.
func TestAllShortTextsAllOrders(t *testing.T) {
	for letters, longest := range fewLetters() {
		for n := range longest + 1 {
			all := orders(n)
			for s := range texts(n, letters) {
				found := 0
				for _, a := range all {
					checkNumbers(t, s, a)
					if SA(s, a) {
						found++
					}
				}
				if found != 1 {
					t.Errorf("of %q %d orders are told to be that of endings", s, found)
				}
			}
		}
	}
}

// P19.1: the numbers of any order beside the order of endings, over all short texts of a few letters.
func TestNumbersOfAnotherOrder(t *testing.T) {
	for letters, longest := range fewLetters() {
		for n := range longest + 1 {
			all := orders(n)
			for s := range texts(n, letters) {
				up := endings(s)
				h := counts(s, up)
				for _, a := range all {
					lcp(t, s, a, h, slices.Equal(a, up))
					lcp(t, s, up, counts(s, a), slices.Equal(counts(s, a), h))
				}
			}
		}
	}
}

// P19.1: the order and the numbers of one text beside another one.
func TestAnotherText(t *testing.T) {
	for n := range 7 {
		all := slices.Collect(texts(n, "ab"))
		for _, one := range all {
			up := endings(one)
			h := counts(one, up)
			for _, other := range all {
				check(t, other, up, h)
				check(t, other, endings(other), h)
			}
		}
	}
}

// P19.1: all short texts, somewhat longer, by their order of endings, and by some others.
func TestAllShortTexts(t *testing.T) {
	for letters, longest := range map[string]int{"ab": 9, "abc": 6, "abcd": 5, "\x00\xff": 8} {
		for n := range longest + 1 {
			for s := range texts(n, letters) {
				checkSome(t, s)
			}
		}
	}
}

// P19.1: all short rows, those that are no order among them, and texts that are longer and shorter: each text has one that
// holds.
func TestAllShortRows(t *testing.T) {
	for _, word := range []string{"a", "ab", "ba", "aab", "banana"} {
		for long := range 7 {
			s := repeated(word, long)
			found := 0
			for n := range 6 {
				for a := range rows(n, -1, n+1) {
					if SA(s, a) {
						found++
					}
					if saInWords(s, a) {
						checkNumbers(t, s, a)
					} else {
						sa(t, s, a, false)
						lcp(t, s, a, make([]int, n), false)
						lcp(t, s, a, counts(s, endings(s)), false)
					}
				}
			}
			if want := min(1, max(0, 6-long)); found != want {
				t.Errorf("of %q %d rows of at most 5 numbers hold, not %d", s, found, want)
			}
		}
	}
}

// P19.1: all short rows as the numbers: each order of endings has one that holds.
func TestAllShortNumbers(t *testing.T) {
	for n := range 5 {
		for s := range texts(n, "ab") {
			up := endings(s)
			found := 0
			for long := range 6 {
				for h := range rows(long, -1, 4) {
					got := LCP(s, up, h)
					if got {
						found++
					}
					if got != lcpInWords(s, up, h) {
						t.Fatalf("LCP(%q, %v, %v) is %t", s, up, h, got)
					}
				}
			}
			if found != 1 {
				t.Errorf("of %q %d rows of numbers hold", s, found)
			}
		}
	}
}

// P19.1, W5: nothing, nil or empty, is all places of nothing, and has nothing alike; beside something nothing is too short.
func TestNothing(t *testing.T) {
	none := [][]int{nil, {}, make([]int, 0, 4), []int{0, 1}[:0], []int{0, 1}[2:], []int{5, -5}[1:1]}
	for _, s := range [][]byte{nil, {}, make([]byte, 0, 4), []byte("ab")[:0], []byte("ab")[2:]} {
		for _, a := range none {
			sa(t, s, a, true)
			for _, h := range none {
				lcp(t, s, a, h, true)
				lcp(t, []byte("a"), a, h, false)
				lcp(t, []byte("a"), []int{0}, h, false)
			}
			refuse(t, []byte("a"), a)
			refuse(t, []byte("banana"), a)
			for _, v := range append(farNumbers(), 0, 1) {
				lcp(t, s, a, []int{v}, false)
				refuse(t, s, []int{v})
			}
		}
		for n := 1; n < 10; n++ {
			refuse(t, s, rising(n))
			lcp(t, s, nil, make([]int, n), false)
		}
	}
}

// farNumbers are the least and the greatest numbers there are, and such as say otherwise by their lower digits.
func farNumbers() []int {
	return []int{
		math.MinInt, math.MinInt + 1, math.MinInt32, math.MaxInt, math.MaxInt - 1, math.MaxInt32, math.MaxUint32,
		1 << 8, 1<<8 + 1, 1 << 16, 1<<16 + 1, 1 << 31, 1 << 32, 1<<32 + 1, 1<<32 + 2, -1 << 31, -1 << 32, 1 - 1<<32,
		math.MinInt + 2, -1, -2,
	}
}

// P19.1: one byte, whichever it is, has one order and one row of numbers.
func TestOne(t *testing.T) {
	for b := range bytesInAll {
		s := []byte{byte(b)}
		lcp(t, s, []int{0}, nil, false)
		lcp(t, s, []int{0}, []int{0, 0}, false)
		few := farNumbers()
		for v := -300; v <= 300; v++ {
			few = append(few, v)
		}
		for _, v := range few {
			sa(t, s, []int{v}, v == 0)
			lcp(t, s, []int{v}, []int{0}, v == 0)
			lcp(t, s, []int{0}, []int{v}, v == 0)
		}
	}
}

// P19.1: two bytes, all pairs of them, either way round.
func TestTwo(t *testing.T) {
	for one := range bytesInAll {
		for other := range bytesInAll {
			s := []byte{byte(one), byte(other)}
			up := one < other
			sa(t, s, []int{0, 1}, up)
			sa(t, s, []int{1, 0}, !up)
			for _, v := range []int{-1, 0, 1, 2} {
				lcp(t, s, []int{0, 1}, []int{0, v}, up && v == 0)
				lcp(t, s, []int{1, 0}, []int{0, v}, one > other && v == 0 || one == other && v == 1)
			}
		}
	}
	few := append(farNumbers(), 0, 1, 2, 3)
	for _, s := range []string{"aa", "ab", "ba"} {
		for _, one := range few {
			for _, other := range few {
				check(t, []byte(s), []int{one, other}, []int{0, 1})
				check(t, []byte(s), endings([]byte(s)), []int{one, other})
			}
		}
	}
}

// P19.1: one byte again and again: the places fall, and neighbours have all of the shorter ending alike.
func TestOneByteAgain(t *testing.T) {
	for n := 1; n <= 40; n++ {
		for _, b := range []byte{0, 1, 'a', 0x7f, 0x80, 0xff} {
			s := bytes.Repeat([]byte{b}, n)
			sa(t, s, falling(n), true)
			lcp(t, s, falling(n), rising(n), true)
			sa(t, s, rising(n), n == 1)
			lcp(t, s, falling(n), falling(n), n == 1)
			lcp(t, s, falling(n), make([]int, n), n == 1)
			checkSome(t, s)
		}
	}
}

// P19.1: no byte twice: endings are in order by their first bytes, and none are alike.
func TestNoByteTwice(t *testing.T) {
	number := draw()
	for n := 1; n <= bytesInAll; n += 17 {
		for _, values := range [][]int{rising(bytesInAll), falling(bytesInAll), drawnOrder(number, bytesInAll)} {
			var s []byte
			for _, v := range values[:n] {
				s = append(s, byte(v))
			}
			up := endings(s)
			sa(t, s, up, true)
			lcp(t, s, up, make([]int, n), true)
			lcp(t, s, up, rising(n), n == 1)
			checkSome(t, s)
			for at := 1; at < n; at++ {
				sa(t, s, swapped(up, at-1, at), false)
				lcp(t, s, swapped(up, at-1, at), make([]int, n), false)
				lcp(t, s, up, with(make([]int, n), at, 1), false)
			}
		}
	}
}

// P19.1: texts of the least and the greatest bytes, and of such as differ by one digit.
func TestLeastAndGreatestBytes(t *testing.T) {
	for _, letters := range []string{"\x7f\x80", "\x00\x80", "\xfe\xff", "\x00\x01", "a\xe1"} {
		for n := range 8 {
			for s := range texts(n, letters) {
				checkSome(t, s)
			}
		}
	}
}

// P19.1: one byte that is another one, at each place of a text that else has a short period.
func TestOneOther(t *testing.T) {
	for _, word := range []string{"b", "bc", "bcb", "bbc"} {
		for n := 1; n <= 13; n++ {
			for at := range n {
				for _, other := range []byte{0, 'a', 'b', 'c', 'd', 0xff} {
					s := repeated(word, n)
					s[at] = other
					checkSome(t, s)
				}
			}
		}
	}
}

// P19.1: the least and the greatest numbers there are, in the place of any number of an order, or of those alike.
func TestFarNumbers(t *testing.T) {
	for _, n := range []int{1, 2, 3, 4, 10, 30} {
		for _, word := range []string{"a", "ab", "ba"} {
			s := repeated(word, n)
			up := endings(s)
			h := counts(s, up)
			for at := range n {
				for _, far := range append(farNumbers(), n, n+1, -n) {
					if far != up[at] {
						refuse(t, s, with(up, at, far))
						refuse(t, s, with(rising(n), at, far))
					}
					lcp(t, s, up, with(h, at, far), far == h[at])
				}
			}
		}
	}
}

// P19.1: one number twice and one that is missing: every pair of places.
func TestTwice(t *testing.T) {
	for _, n := range []int{2, 3, 4, 5, 10, 25} {
		for _, word := range []string{"a", "aab", "ba", "abcab"} {
			s := repeated(word, n)
			for _, a := range [][]int{endings(s), rising(n), falling(n)} {
				for missing := range a {
					for twice := range a {
						if twice != missing {
							refuse(t, s, with(a, missing, a[twice]))
						}
					}
				}
			}
		}
	}
}

// P19.1: orders of more places than the text has, and of fewer, those of its beginnings and its endings among them.
func TestLongerAndShorter(t *testing.T) {
	s := repeated("aabab", 26)
	for long := range s {
		text := s[:long]
		h := counts(text, endings(text))
		for n := range s {
			for _, a := range [][]int{rising(n), falling(n), endings(s[:n]), endings(s[len(s)-n:])} {
				check(t, text, a, h)
				check(t, text, a, counts(s, a))
			}
		}
		// With a place more, with one fewer, at either end and in the middle.
		up := endings(text)
		for _, at := range []int{0, long / 2, long} {
			refuse(t, text, slices.Insert(slices.Clone(up), at, long))
			if at < long {
				refuse(t, text, slices.Delete(slices.Clone(up), at, at+1))
			}
		}
	}
}

// P19.1: periodic texts, by their order of endings and by others.
func TestPeriodic(t *testing.T) {
	for _, word := range []string{"ab", "ba", "aab", "aba", "baa", "abc", "cba", "abaab", "aabaabab", "abcabcabd", "\x00\xff\x00"} {
		for n := range 48 {
			checkSome(t, repeated(word, n))
		}
	}
	for n := range 90 {
		checkSome(t, joined(n))
	}
}

// P19.1: an order of endings with two places changed, whichever they are, those that have most alike among them.
func TestTwoChanged(t *testing.T) {
	number := draw()
	for _, n := range []int{2, 3, 5, 12, 24} {
		for _, s := range [][]byte{
			repeated("a", n), repeated("ab", n), repeated("aab", n), repeated("banana", n), repeated("mississippi", n), joined(n),
			drawnText(number, n, 'a', 2), drawnText(number, n, 0, bytesInAll),
		} {
			up := endings(s)
			h := counts(s, up)
			for i := range n {
				for j := range i {
					a := swapped(up, i, j)
					sa(t, s, a, false)
					lcp(t, s, a, h, false)
					lcp(t, s, a, counts(s, a), false)
					lcp(t, s, up, swapped(h, i, j), h[i] == h[j])
				}
			}
		}
	}
}

// P19.1: an order of endings with one place put elsewhere, and with some places turned round.
func TestOneElsewhere(t *testing.T) {
	for _, word := range []string{"a", "ab", "abcab", "banana"} {
		s := repeated(word, 20)
		up := endings(s)
		for from := range s {
			for to := range s {
				place := up[from]
				a := slices.Insert(slices.Delete(slices.Clone(up), from, from+1), to, place)
				sa(t, s, a, from == to)
				lcp(t, s, a, counts(s, up), from == to)
				if from < to {
					part := slices.Clone(up)
					slices.Reverse(part[from : to+1])
					sa(t, s, part, false)
				}
			}
		}
	}
}

// P19.1: one word twice, of some bytes, one more, one less, and so on: by how many bytes are alike, and by what comes then.
func TestManyAlike(t *testing.T) {
	var lengths []int
	for n := 1; n <= 1024; n *= 4 {
		lengths = append(lengths, n-1, n, n+1)
	}
	number := draw()
	for _, n := range append(lengths, 100, 511, 512, 513) {
		for _, word := range [][]byte{repeated("a", n), repeated("abc", n), joined(n), drawnText(number, n, 'a', 3)} {
			for _, end := range []string{"y", "", "xy"} {
				s := slices.Concat(word, []byte("x"), word, []byte(end))
				up := endings(s)
				h := counts(s, up)
				sa(t, s, up, true)
				lcp(t, s, up, h, true)
				if len(s) < 2 {
					continue
				}
				most := mostAlike(h)
				sa(t, s, swapped(up, most-1, most), false)
				lcp(t, s, swapped(up, most-1, most), h, false)
				lcp(t, s, up, with(h, most, h[most]+1), false)
				lcp(t, s, up, with(h, most, h[most]-1), false)
			}
		}
	}
}

// P19.1: texts of some hundred bytes of no plain rule, and orders of all kinds.
func TestLongerTexts(t *testing.T) {
	number := draw()
	for _, n := range []int{2, 3, 17, 64, 255, 256, 257, 400} {
		for _, below := range []int{2, 3, 26, bytesInAll} {
			s := drawnText(number, n, byte(number(bytesInAll)), below)
			checkSome(t, s)
			half := s[:n/2+1]
			checkSome(t, slices.Concat(half, half))
			up := endings(s)
			for range 5 {
				a := swapped(up, number(n), number(n))
				check(t, s, a, counts(s, a))
				h := with(counts(s, up), number(n), number(3))
				check(t, s, up, h)
			}
		}
	}
}

// countsAlong is counts of an order of endings of a long text: from place to place they fall by 1 at most, so that what is
// alike already is not counted again.
func countsAlong(s []byte, up []int) []int {
	where := make([]int, len(up))
	for at, place := range up {
		where[place] = at
	}
	alike := make([]int, len(up))
	n := 0
	for i, at := range where {
		if at == 0 {
			n = 0
			continue
		}
		j := up[at-1]
		for i+n < len(s) && j+n < len(s) && s[i+n] == s[j+n] {
			n++
		}
		alike[at] = n
		n = max(n-1, 0)
	}
	return alike
}

// TestCountsAlong holds what tells of long texts against counts of each.
func TestCountsAlong(t *testing.T) {
	for n := range 9 {
		for s := range texts(n, "ab") {
			if up := endings(s); !slices.Equal(countsAlong(s, up), counts(s, up)) {
				t.Errorf("of %q %v are alike, not %v", s, counts(s, up), countsAlong(s, up))
			}
		}
	}
}

// longTexts are texts of n bytes, of all kinds.
func longTexts(n int) [][]byte {
	number := draw()
	half := drawnText(number, n-n/2, 'a', 3)
	last := repeated("a", n)
	last[n-1] = 'b'
	middle := repeated("ab", n)
	middle[n/2] = 'c'
	return [][]byte{
		repeated("a", n), repeated("ab", n), repeated("aabaabab", n), repeated(string(drawnText(number, 1000, 0, bytesInAll)), n), joined(n),
		last, middle, slices.Concat(half, half)[:n], drawnText(number, n, 'a', 2), drawnText(number, n, 0, bytesInAll),
	}
}

// checkLong holds both of a long text, by its order of endings, against what holds of it and of what differs by little.
func checkLong(t *testing.T, s []byte, up []int) {
	t.Helper()
	n := len(s)
	h := countsAlong(s, up)
	if !SA(s, up) || !LCP(s, up, h) {
		t.Fatalf("of %d bytes the order of endings is told to be none, or the numbers", n)
	}
	most := mostAlike(h)
	for _, at := range [][2]int{{0, n - 1}, {n / 3, n / 2}, {0, 1}, {n - 2, n - 1}, {n / 2, n/2 + 1}, {most - 1, most}} {
		a := swapped(up, at[0], at[1])
		if SA(s, a) || LCP(s, a, h) {
			t.Fatalf("of %d bytes the order of endings with %d and %d changed is told to be one", n, at[0], at[1])
		}
	}
	for _, at := range []int{0, 1, n / 2, most, n - 1} {
		for _, v := range []int{h[at] + 1, h[at] - 1, math.MinInt, math.MaxInt, h[at] + 1<<32} {
			if LCP(s, up, with(h, at, v)) {
				t.Fatalf("of %d bytes %d are told to be alike at %d, not %d", n, v, at, h[at])
			}
		}
	}
	if LCP(s, up, h[1:]) || LCP(s, up, h[:n-1]) || LCP(s, up, append(h[:n:n], 0)) || LCP(s, up, nil) {
		t.Fatalf("of %d bytes more numbers than there are places, or fewer, are told to hold", n)
	}
}

// refuseLong holds both of a long text against false, by rows that are not its order of endings.
func refuseLong(t *testing.T, s []byte, h []int, all ...[]int) {
	t.Helper()
	for at, a := range all {
		if SA(s, a) || LCP(s, a, h) {
			t.Fatalf("of %d bytes a row of %d numbers, the one at %d, is told to be the order of endings", len(s), len(a), at)
		}
	}
}

// P19.1: texts of MaxText bytes: their order of endings, such with two places changed, and orders that are far from it.
func TestManyBytes(t *testing.T) {
	number := draw()
	n := api.MaxText
	for _, s := range longTexts(n) {
		up, e := sais.Bytes(s)
		if e != api.OK {
			t.Fatal(e)
		}
		checkLong(t, s, up)
		far := [][]int{backwards(up), halves(n), stepped(n, n/2, 1), drawnOrder(number, n), slices.Concat(up[n/3:], up[:n/3])}
		// Of one byte again and again, and of that with another one behind, one of these two is the order of endings.
		for _, a := range [][]int{rising(n), falling(n)} {
			if !slices.Equal(a, up) {
				far = append(far, a)
			}
		}
		refuseLong(t, s, countsAlong(s, up), far...)
	}
}

// P19.1: what chapters 17 and 18 answer of an order of endings holds, and of another order does not.
func TestBothBuilders(t *testing.T) {
	for _, s := range longTexts(5000) {
		up, _ := sais.Bytes(s)
		for _, h := range [][]int{first(kasai.LCP(s, up)), first(phi.LCP(s, up)), countsAlong(s, up)} {
			if !LCP(s, up, h) {
				t.Errorf("of %d bytes from %q on the numbers of the order of endings are told to be none", len(s), s[:20])
			}
		}
		for _, a := range [][]int{backwards(up), swapped(up, 0, 1), halves(len(s))} {
			if LCP(s, a, first(kasai.LCP(s, a))) || LCP(s, a, first(phi.LCP(s, a))) {
				t.Errorf("of %d bytes from %q on another order is told to be that of endings", len(s), s[:20])
			}
		}
	}
}

// first is a row that is answered with a bool.
func first(row []int, _ bool) []int { return row }

// P19.1: the chapter names no bound, so that texts of more than MaxText bytes are told of, too.
func TestMoreThanMaxText(t *testing.T) {
	number := draw()
	for _, n := range []int{api.MaxText - 1, api.MaxText + 1, 3 * api.MaxText} {
		checkLong(t, repeated("a", n), falling(n))
		for _, below := range []int{2, bytesInAll} {
			s := drawnText(number, n, 0, below)
			checkLong(t, s, endings(s))
		}
	}
}

// P19.1: long rows that are no order, and long orders of another length than the text.
func TestManyNumbersRefused(t *testing.T) {
	n := api.MaxText
	s := repeated("a", n)
	up, h := falling(n), rising(n)
	for _, at := range []int{0, 1, n / 2, n - 2, n - 1} {
		for _, wrong := range []int{up[(at+1)%n], up[(at+n/2)%n], n, -1, math.MinInt, math.MaxInt} {
			refuseLong(t, s, h, with(up, at, wrong))
		}
	}
	for _, other := range [][]byte{s[1:], s[:n-1], s[:1], nil, append(s[:n:n], 'a')} {
		refuseLong(t, other, h, up)
		refuseLong(t, other, h[:len(other)/2], up)
	}
	refuseLong(t, s, h, make([]int, n), nil, []int{0}, up[1:], up[:n-1], append([]int{n}, up...), append(up[:n:n], n))
}

// A text of MaxText bytes takes well under a second, even where neighbours have nearly all of it alike: the shortest of
// some calls, as the machine may be busy with others.
func TestManyBytesSoon(t *testing.T) {
	for at, s := range longTexts(api.MaxText) {
		up, _ := sais.Bytes(s)
		h := countsAlong(s, up)
		for _, a := range [][]int{up, swapped(up, 0, 1), rising(len(up)), halves(len(up))} {
			least := time.Hour
			for range 5 {
				began := time.Now()
				LCP(s, a, h)
				least = min(least, time.Since(began))
			}
			if least > time.Second/2 {
				t.Errorf("LCP of text %d takes %v", at, least)
			}
		}
	}
}

// sample is what is handed in.
type sample struct {
	s    string
	a, h []int
}

// samples are such as hold, and such as do not.
func samples() []sample {
	words := string(repeated("aab", 33))
	up := endings([]byte(words))
	return []sample{
		{"", []int{}, []int{}}, {"a", []int{0}, []int{0}}, {"aa", []int{1, 0}, []int{0, 1}}, {"aaaa", []int{3, 2, 1, 0}, []int{0, 1, 2, 3}},
		{"banana", []int{5, 3, 1, 0, 4, 2}, []int{0, 1, 3, 0, 0, 2}}, {words, up, counts([]byte(words), up)},
		{string(repeated("a", 64)), falling(64), rising(64)}, {words, up, up},
		{"ab", []int{1, 0}, []int{0, 0}}, {"aaaa", []int{0, 1, 2, 3}, []int{0, 3, 2, 1}}, {words, stepped(33, 5, 7), rising(33)},
		{"banana", []int{5, 3, 1, 0, 4, 2}, []int{0, 1, 3, 0, 1, 2}}, {"banana", []int{5, 3, 1, 0, 4, 2}, []int{0, 1, 3}},
		{"banana", []int{3, 5, 1, 0, 4, 2}, []int{0, 1, 1, 0, 0, 2}}, {"a", []int{1}, []int{0}}, {"aa", []int{0, 0}, []int{0, 1}},
		{"aaa", []int{1, 0}, []int{0, 1}}, {"aa", []int{2, 1, 0}, []int{0, 0, 1}}, {"abc", []int{0, -1, 1}, nil}, {"", []int{0}, []int{0}},
		{"a", []int{0}, []int{0, 0}}, {"a", nil, nil}, {"ab", []int{math.MinInt, math.MaxInt}, []int{math.MaxInt, math.MinInt}},
	}
}

// around is a row with a number ahead of it and some behind it, and the row in the midst of that.
func around[V any](row []V, by V) (all, midst []V) {
	all = slices.Concat([]V{by, by}, row, []V{by, by, by, by})
	return all, all[2 : 2+len(row)]
}

// P19.2, W6: neither what is handed in nor the room around it is changed, and that room is not told of.
func TestWhatIsHandedInStays(t *testing.T) {
	for _, by := range []int{-7, -1, 0, 1, 2, 6, 9, 'a', math.MinInt, math.MaxInt} {
		for _, c := range samples() {
			texts, s := around([]byte(c.s), byte(by))
			row, a := around(c.a, by)
			numbers, h := around(c.h, by)
			textsWere, rowWas, numbersWere := slices.Clone(texts), slices.Clone(row), slices.Clone(numbers)
			sa(t, s, a, saInWords([]byte(c.s), c.a))
			if !slices.Equal(row, rowWas) || !bytes.Equal(texts, textsWere) {
				t.Errorf("with SA %q, %v have become %q, %v", textsWere, rowWas, texts, row)
			}
			lcp(t, s, a, h, lcpInWords([]byte(c.s), c.a, c.h))
			if !slices.Equal(row, rowWas) || !bytes.Equal(texts, textsWere) || !slices.Equal(numbers, numbersWere) {
				t.Errorf("with LCP %q, %v, %v have become %q, %v, %v", textsWere, rowWas, numbersWere, texts, row, numbers)
			}
		}
	}
}

// P19.1, P19.2: what is missing stands in the room behind the end, and is none of it.
func TestRoomBehind(t *testing.T) {
	all := []byte("bananabanana")
	sa(t, all[:6], []int{5, 3, 1, 0, 4, 2}, true)
	lcp(t, all[:6], []int{5, 3, 1, 0, 4, 2}, []int{0, 1, 3, 0, 0, 2}, true)
	lcp(t, []byte("abab")[:2], []int{0, 1}, []int{0, 0}, true)
	lcp(t, []byte("aaaaaa")[:3], []int{2, 1, 0}, []int{0, 1, 2}, true)
	sa(t, []byte("aab")[:2], []int{0, 1}, false)
	refuse(t, []byte("aaa"), []int{2, 1, 0}[:2])
	refuse(t, []byte("aaa")[:2], []int{2, 1, 0})
	lcp(t, []byte("aaa"), []int{2, 1, 0}, []int{0, 1, 2}[:2], false)
	lcp(t, []byte("aa"), []int{1, 0, 0, -1}[:2], []int{0, 1, 5}[:2], true)
	// The row and the numbers in one list, either one in the room behind the other one.
	both := []int{5, 3, 1, 0, 4, 2, 0, 1, 3, 0, 0, 2, 5, 3, 1, 0, 4, 2}
	was := slices.Clone(both)
	lcp(t, all[:6], both[:6], both[6:12], true)
	lcp(t, all[:6], both[12:], both[6:12], true)
	lcp(t, all[:6], both[:6], both[12:], false)
	lcp(t, all[:6], both[:6], both[:6], false)
	lcp(t, all[:1], both[3:4], both[3:4], true)
	if !slices.Equal(both, was) {
		t.Errorf("%v have become %v", was, both)
	}
}

// W2, W6: what was handed in is not kept: what is told of later depends on what is handed in then.
func TestNothingIsKept(t *testing.T) {
	s, a, h := []byte("aa"), []int{1, 0}, []int{0, 1}
	for range 3 {
		sa(t, s, a, true)
		lcp(t, s, a, h, true)
		s[1] = 'b'
		sa(t, s, a, false)
		lcp(t, s, a, h, false)
		a[0], a[1], h[1] = 0, 1, 0
		sa(t, s, a, true)
		lcp(t, s, a, h, true)
		s[1] = 'a'
		sa(t, s, a, false)
		a[0], a[1], h[1] = 1, 0, 1
	}
	for _, c := range samples() {
		for _, later := range samples() {
			SA([]byte(later.s), later.a)
			LCP([]byte(later.s), later.a, later.h)
			check(t, []byte(c.s), c.a, c.h)
		}
	}
}

// orderBy is an order of n numbers that bytes tell: those that are less come first, each by what it says.
func orderBy(b []byte, n int) []int {
	row := rising(n)
	slices.SortStableFunc(row, func(i, j int) int { return cmp.Compare(b[i%len(b)], b[j%len(b)]) })
	return row
}

// FuzzCheck takes its text from bytes, by some of their lower digits, and its rows from others.
func FuzzCheck(f *testing.F) {
	f.Add([]byte("banana"), []byte{5, 3, 1, 0, 4, 2}, []byte{0, 1, 3, 0, 0, 2}, byte(0xff))
	f.Add([]byte("aaaa"), []byte{3, 2, 1, 0}, []byte{0, 1, 2, 3}, byte(1))
	f.Add([]byte{}, []byte{}, []byte{}, byte(2))
	f.Add([]byte("ab"), []byte{255, 254}, []byte{0}, byte(7))
	f.Add([]byte("abc"), []byte{0, 1, 1}, []byte{0, 0, 0}, byte(3))
	f.Fuzz(func(t *testing.T, s, b, numbers []byte, few byte) {
		s, b, numbers = s[:min(len(s), 200)], b[:min(len(b), 200)], numbers[:min(len(numbers), 200)]
		// Of few letters: the fuzzer seldom makes texts that come again.
		for i := range s {
			s[i] %= max(few, 1)
		}
		var a, h []int
		for _, v := range b {
			a = append(a, int(int8(v)))
		}
		for _, v := range numbers {
			h = append(h, int(int8(v)))
		}
		check(t, s, a, h)
		check(t, s, endings(s), h)
		checkSome(t, s)
		if len(b) > 0 {
			by := orderBy(b, len(s))
			check(t, s, by, h)
			checkNumbers(t, s, by)
		}
	})
}
