package phi

import (
	"bytes"
	"cmp"
	"iter"
	"math"
	"slices"
	"testing"
	"time"

	"whorl/api"
	"whorl/kasai"
	"whorl/lex"
	"whorl/sais"
)

// rows are all rows of n numbers, each least to greatest. Each is new, so that none is left out nor comes again where one
// that was handed in is changed.
func rows(n, least, greatest int) iter.Seq[[]int] {
	return func(yield func([]int) bool) {
		row := slices.Repeat([]int{least}, n)
		for yield(slices.Clone(row)) {
			at := n - 1
			for at >= 0 && row[at] == greatest {
				row[at] = least
				at--
			}
			if at < 0 {
				return
			}
			row[at]++
		}
	}
}

// texts are all texts of n of these letters. What is handed over is changed for the next one.
func texts(n int, letters string) iter.Seq[[]byte] {
	return func(yield func([]byte) bool) {
		text := make([]byte, n)
		for row := range rows(n, 0, len(letters)-1) {
			for i, v := range row {
				text[i] = letters[v]
			}
			if !yield(text) {
				return
			}
		}
	}
}

// orders are all orders of n numbers: the shorter ones, each with the greatest number put in at each place.
func orders(n int) [][]int {
	if n == 0 {
		return [][]int{{}}
	}
	var all [][]int
	for _, a := range orders(n - 1) {
		for at := range n {
			all = append(all, slices.Insert(slices.Clone(a), at, n-1))
		}
	}
	return all
}

// rising is the numbers from 0 on, n of them.
func rising(n int) []int { return stepped(n, 0, 1) }

// falling is the numbers from n - 1 down to 0.
func falling(n int) []int { return stepped(n, n-1, n-1) }

// stepped is the numbers 0 to n - 1, each a step further on than the one ahead of it, round and round; step and n have no
// divisor together.
func stepped(n, from, step int) []int {
	row := make([]int, n)
	for i := range row {
		row[i] = (from + i*step) % n
	}
	return row
}

// halves is an order whose neighbours go by turns from one half of the numbers to the other one.
func halves(n int) []int {
	row := rising(n)
	slices.SortStableFunc(row, func(i, j int) int { return cmp.Compare(i%((n+1)/2), j%((n+1)/2)) })
	return row
}

// draw hands over numbers of no plain rule, 0 to below - 1, the same ones each time.
func draw() func(below int) int {
	state := uint64(18)
	return func(below int) int {
		state = state*6364136223846793005 + 1442695040888963407
		return int(state>>33) % below
	}
}

// drawnOrder is an order of n numbers of no plain rule.
func drawnOrder(number func(below int) int, n int) []int {
	row := make([]int, 0, n)
	for v := range n {
		at := number(v + 1)
		row = append(row, v)
		row[v], row[at] = row[at], row[v]
	}
	return row
}

// drawnText is n bytes of no plain rule, each one of so many from a letter on.
func drawnText(number func(below int) int, n int, from byte, below int) []byte {
	var text []byte
	for range n {
		text = append(text, from+byte(number(below)))
	}
	return text
}

// repeated is n bytes of a word that comes again and again, the last time cut short or not.
func repeated(word string, n int) []byte {
	return bytes.Repeat([]byte(word), n/len(word)+1)[:n]
}

// joined is n bytes of the text whose beginnings are each the two shorter ones together: all of it comes again, but never
// for long by one period.
func joined(n int) []byte {
	one, two := []byte("a"), []byte("ab")
	for len(two) < n {
		one, two = two, slices.Concat(two, one)
	}
	return two[:n]
}

// swapped is an order with the numbers of two places changed for each other.
func swapped(a []int, i, j int) []int {
	row := slices.Clone(a)
	row[i], row[j] = row[j], row[i]
	return row
}

// endings is all places in order of their endings, each held against others.
func endings(s []byte) []int {
	return slices.SortedFunc(slices.Values(rising(len(s))), func(i, j int) int { return bytes.Compare(s[i:], s[j:]) })
}

// isOrder says whether each number from 0 on is there once: whether all of them, as they are sorted, are those.
func isOrder(a []int) bool {
	return slices.Equal(slices.Sorted(slices.Values(a)), rising(len(a)))
}

// commonInWords is how many bytes two endings begin with alike, byte by byte.
func commonInWords(s []byte, i, j int) int {
	n := 0
	for i+n < len(s) && j+n < len(s) && s[i+n] == s[j+n] {
		n++
	}
	return n
}

// aheadInWords is what Ahead is to answer of an order: what stands ahead of where each place stands.
func aheadInWords(a []int) []int {
	var ahead []int
	for place := range a {
		before := -1
		if at := slices.Index(a, place); at > 0 {
			before = a[at-1]
		}
		ahead = append(ahead, before)
	}
	return ahead
}

// plcpInWords is what PLCP is to answer of an order of all places, by those that are ahead.
func plcpInWords(s []byte, ahead []int) []int {
	alike := make([]int, len(ahead))
	for place, before := range ahead {
		if before != -1 {
			alike[place] = commonInWords(s, place, before)
		}
	}
	return alike
}

// lcpInWords is what LCP is to answer of an order of all places.
func lcpInWords(s []byte, a []int) []int {
	alike := make([]int, len(a))
	for at := 1; at < len(a); at++ {
		alike[at] = commonInWords(s, a[at-1], a[at])
	}
	return alike
}

// call is one of the three, of a text and a row.
type call struct {
	name string
	of   func(s []byte, a []int) ([]int, bool)
}

// calls are all three, Ahead without the text.
func calls() []call {
	return []call{{"Ahead", func(_ []byte, a []int) ([]int, bool) { return Ahead(a) }}, {"PLCP", PLCP}, {"LCP", LCP}}
}

// accept holds a call against an answer.
func accept(t *testing.T, c call, s []byte, a, want []int) {
	t.Helper()
	if got, ok := c.of(s, a); !ok || !slices.Equal(got, want) {
		t.Fatalf("%s of %q and %v is %v, %t, not %v", c.name, s, a, got, ok, want)
	}
}

// acceptAll holds all three against answers.
func acceptAll(t *testing.T, s []byte, a, ahead, plcp, lcp []int) {
	t.Helper()
	for i, want := range [][]int{ahead, plcp, lcp} {
		accept(t, calls()[i], s, a, want)
	}
	accept(t, call{"chapter 17's LCP", kasai.LCP}, s, a, lcp)
}

// refuse holds those of the text against nothing, and Ahead too, if the row is no order.
func refuse(t *testing.T, s []byte, a []int) {
	t.Helper()
	for i, c := range calls() {
		if i == 0 && isOrder(a) {
			continue
		}
		if got, ok := c.of(s, a); ok || got != nil {
			t.Fatalf("%s of %q and %v is %v, %t", c.name, s, a, got, ok)
		}
	}
}

// check holds all three against the words.
func check(t *testing.T, s []byte, a []int) {
	t.Helper()
	if !isOrder(a) || len(a) != len(s) {
		refuse(t, s, a)
		return
	}
	ahead := aheadInWords(a)
	acceptAll(t, s, a, ahead, plcpInWords(s, ahead), lcpInWords(s, a))
}

// checkEndings holds all three against the words by the order of endings, and that PLCP falls by 1 at most then.
func checkEndings(t *testing.T, s []byte) {
	t.Helper()
	a := endings(s)
	check(t, s, a)
	alike, _ := PLCP(s, a)
	checkFall(t, alike)
}

// checkFall holds that no number is less by more than 1 than the one ahead of it.
func checkFall(t *testing.T, alike []int) {
	t.Helper()
	for i := 1; i < len(alike); i++ {
		if alike[i] < alike[i-1]-1 {
			t.Fatalf("of %d places PLCP falls from %d to %d at %d", len(alike), alike[i-1], alike[i], i)
		}
	}
}

// checkSome holds all three against the words by the order of endings and by some others.
func checkSome(t *testing.T, s []byte) {
	t.Helper()
	n := len(s)
	checkEndings(t, s)
	up := endings(s)
	down := slices.Clone(up)
	slices.Reverse(down)
	all := [][]int{down, slices.Concat(up[n/3:], up[:n/3]), rising(n), falling(n), halves(n), stepped(n, n/2, 1)}
	if n > 1 {
		all = append(all, swapped(up, 0, n-1), swapped(up, n/2, n-1), swapped(up, n/2, n/2-1), swapped(up, 0, 1))
	}
	number := draw()
	all = append(all, drawnOrder(number, n), drawnOrder(number, n))
	for _, a := range all {
		check(t, s, a)
	}
}

// checkCommon holds a number of a long text against the words: as many bytes are alike, and the next ones aren't, if there
// are such.
func checkCommon(t *testing.T, s []byte, i, j, n int) {
	t.Helper()
	one, other := s[i:], s[j:]
	if n < 0 || n > min(len(one), len(other)) || !bytes.Equal(one[:n], other[:n]) {
		t.Fatalf("of %d bytes endings %d and %d are told to have %d alike", len(s), i, j, n)
	}
	if n < len(one) && n < len(other) && one[n] == other[n] {
		t.Fatalf("of %d bytes endings %d and %d are told to have %d alike, and no more", len(s), i, j, n)
	}
}

// checkLong holds all three of a long text and an order against the words, and answers what PLCP does.
func checkLong(t *testing.T, s []byte, a []int) []int {
	t.Helper()
	var answers [3][]int
	for i, c := range calls() {
		got, ok := c.of(s, a)
		if !ok || len(got) != len(s) {
			t.Fatalf("%s of %d bytes and an order is %d numbers, %t", c.name, len(s), len(got), ok)
		}
		answers[i] = got
	}
	ahead, plcp, lcp := answers[0], answers[1], answers[2]
	last := -1
	for at, place := range a {
		if ahead[place] != last || lcp[at] != plcp[place] {
			t.Fatalf("of %d places, at %d behind %d, Ahead is %d, PLCP %d, LCP %d", len(a), at, last, ahead[place], plcp[place], lcp[at])
		}
		if last != -1 {
			checkCommon(t, s, place, last, plcp[place])
		} else if plcp[place] != 0 {
			t.Fatalf("of %d places the first one of the order is told to have %d alike", len(a), plcp[place])
		}
		last = place
	}
	if want, ok := kasai.LCP(s, a); !ok || !slices.Equal(lcp, want) {
		t.Fatalf("of %d bytes and an order LCP is not chapter 17's", len(s))
	}
	return plcp
}

// refuseLong holds those of a long text against nothing, and Ahead too, if the row is told to be no order.
func refuseLong(t *testing.T, s []byte, a []int, order bool) {
	t.Helper()
	for i, c := range calls() {
		if got, ok := c.of(s, a); (i > 0 || !order) && (ok || got != nil) {
			t.Fatalf("%s of %d bytes and %d numbers is %d numbers, %t", c.name, len(s), len(a), len(got), ok)
		}
	}
}

// P18.1: the chapter's example, and chapter 17's.
func TestExample(t *testing.T) {
	acceptAll(t, []byte("aaa"), []int{2, 0, 1}, []int{2, 0, -1}, []int{1, 2, 0}, []int{0, 1, 2})
	acceptAll(t, []byte("abc"), []int{2, 0, 1}, []int{2, 0, -1}, []int{0, 0, 0}, []int{0, 0, 0})
	acceptAll(t, []byte("banana"), []int{5, 3, 1, 0, 4, 2}, []int{1, 3, 4, 5, 0, -1}, []int{0, 3, 2, 1, 0, 0}, []int{0, 1, 3, 0, 0, 2})
}

// P18.1, P18.2: by hand.
func TestSomeTexts(t *testing.T) {
	for _, c := range []struct {
		s                    string
		a, ahead, plcp, lcps []int
	}{
		{"mississippi", []int{10, 7, 4, 1, 0, 9, 8, 6, 3, 5, 2}, []int{1, 4, 5, 6, 7, 3, 8, 10, 9, 0, -1}, []int{0, 4, 3, 2, 1, 1, 0, 1, 1, 0, 0}, []int{0, 1, 1, 4, 0, 0, 1, 0, 2, 1, 3}},
		{"abracadabra", []int{10, 7, 0, 3, 5, 8, 1, 4, 6, 9, 2}, []int{7, 8, 9, 0, 1, 3, 4, 10, 5, 6, -1}, []int{4, 3, 2, 1, 0, 1, 0, 1, 0, 0, 0}, []int{0, 1, 4, 1, 1, 0, 3, 0, 0, 0, 2}},
		{"aaaa", []int{3, 2, 1, 0}, []int{1, 2, 3, -1}, []int{3, 2, 1, 0}, []int{0, 1, 2, 3}},
		{"aaaa", []int{0, 1, 2, 3}, []int{-1, 0, 1, 2}, []int{0, 3, 2, 1}, []int{0, 3, 2, 1}},
		{"aaaa", []int{1, 3, 0, 2}, []int{3, -1, 0, 1}, []int{1, 0, 2, 1}, []int{0, 1, 1, 2}},
		{"abab", []int{2, 0, 3, 1}, []int{2, 3, -1, 0}, []int{2, 1, 0, 0}, []int{0, 2, 0, 1}},
		{"banana", []int{2, 4, 0, 1, 3, 5}, []int{4, 0, -1, 1, 2, 3}, []int{0, 0, 0, 3, 2, 1}, []int{0, 2, 0, 0, 3, 1}},
		// Many alike at one place, and at the next one none, though the order of endings would have them.
		{"xabcyabc", []int{1, 5, 0, 6, 3, 2, 7, 4}, []int{5, -1, 3, 6, 7, 1, 0, 2}, []int{0, 0, 0, 0, 0, 3, 0, 0}, []int{0, 3, 0, 0, 0, 0, 0, 0}},
		// Fewer at the next place, or more, as it has another ending ahead.
		{"aaaba", []int{1, 0, 4, 2, 3}, []int{1, -1, 4, 2, 0}, []int{2, 0, 1, 0, 1}, []int{0, 2, 1, 1, 0}},
		{"abcabcabc", []int{3, 0, 7, 1, 4, 2, 5, 8, 6}, []int{3, 7, 4, -1, 1, 2, 8, 0, 5}, []int{6, 2, 0, 0, 5, 4, 0, 0, 1}, []int{0, 6, 0, 2, 5, 0, 4, 1, 0}},
	} {
		acceptAll(t, []byte(c.s), c.a, c.ahead, c.plcp, c.lcps)
	}
	for _, c := range []struct {
		s string
		a []int
	}{
		{"abc", nil}, {"abc", []int{0}}, {"abc", []int{0, 1}}, {"abc", []int{2, 1}}, {"abc", []int{0, 1, 2, 3}},
		{"abc", []int{1, 2, 3}}, {"abc", []int{0, 1, 1}}, {"abc", []int{0, 0, 0}}, {"abc", []int{0, 1, 3}},
		{"abc", []int{-1, 0, 1}}, {"abc", []int{0, -2, 2}}, {"", []int{0}}, {"", []int{0, 1}}, {"", []int{-1}},
		{"a", nil}, {"a", []int{1}}, {"a", []int{-1}}, {"a", []int{0, 1}}, {"a", []int{1, 0}},
		// With the empty ending's place, as it is no place of a byte.
		{"banana", []int{6, 5, 3, 1, 0, 4, 2}}, {"banana", []int{6, 5, 3, 1, 0, 4}}, {"aaa", []int{3, 2, 1}},
		// What Ahead answers is no order itself.
		{"aaa", []int{2, 0, -1}},
	} {
		refuse(t, []byte(c.s), c.a)
	}
}

// P18.1: Ahead over all short rows, those that are no order among them.
func TestAheadOfAllShortRows(t *testing.T) {
	ahead := calls()[0]
	all := 1
	for n := range 7 {
		all *= max(n, 1)
		found := 0
		for a := range rows(n, -2, n+1) {
			if isOrder(a) {
				found++
				accept(t, ahead, nil, a, aheadInWords(a))
			} else if got, ok := Ahead(a); ok || got != nil {
				t.Fatalf("Ahead(%v) is %v, %t", a, got, ok)
			}
		}
		if found != all {
			t.Errorf("of %d numbers there are %d orders, not %d", n, found, all)
		}
	}
}

// P18.1: Ahead over all orders, somewhat longer; it leads from the last place back to the first, and to none behind that.
func TestAheadOfAllShortOrders(t *testing.T) {
	for n := range 9 {
		for _, a := range orders(n) {
			accept(t, calls()[0], nil, a, aheadInWords(a))
			if n == 0 {
				continue
			}
			ahead, _ := Ahead(a)
			place := a[n-1]
			for at := n - 1; at > 0; at-- {
				place = ahead[place]
				if place != a[at-1] {
					t.Fatalf("Ahead(%v) is %v", a, ahead)
				}
			}
			if ahead[place] != -1 {
				t.Fatalf("Ahead(%v) is %v", a, ahead)
			}
		}
	}
}

// P18.1, P18.2: all short texts of a few letters, and all orders of their places, be they of endings or not.
func TestAllShortTextsAllOrders(t *testing.T) {
	for _, c := range []struct {
		longest int
		letters string
	}{{7, "ab"}, {5, "abc"}, {5, "abcd"}, {4, "\x00\x01\x7f\x80\xff"}} {
		for n := range c.longest + 1 {
			for _, a := range orders(n) {
				ahead := aheadInWords(a)
				for s := range texts(n, c.letters) {
					acceptAll(t, s, a, ahead, plcpInWords(s, ahead), lcpInWords(s, a))
				}
			}
		}
	}
}

// P18.1, P18.2: all texts, somewhat longer, by their order of endings, and by some others.
func TestAllShortTexts(t *testing.T) {
	for _, c := range []struct {
		longest int
		letters string
	}{{11, "ab"}, {7, "abc"}, {5, "abcd"}} {
		for n := range c.longest + 1 {
			for s := range texts(n, c.letters) {
				checkSome(t, s)
			}
		}
	}
}

// P18.1: all short rows, those that are no order among them, and texts that are longer and shorter.
func TestAllShortRows(t *testing.T) {
	for _, word := range []string{"a", "ab", "aab", "banana"} {
		for n := range 6 {
			for a := range rows(n, -1, n) {
				for long := range 8 {
					check(t, repeated(word, long), a)
				}
			}
		}
	}
}

// P18.1: PLCP is lex's Common of each place and the one ahead, in words that are the chapter's own.
func TestCommonOfAhead(t *testing.T) {
	number := draw()
	for n := 1; n < 60; n++ {
		s := drawnText(number, n, 'a', 2)
		for _, a := range [][]int{endings(s), drawnOrder(number, n), halves(n)} {
			ahead, _ := Ahead(a)
			alike, ok := PLCP(s, a)
			for place, before := range ahead {
				// No ending begins at -1, so that Common is 0 there.
				if !ok || alike[place] != lex.Common(s, place, before) {
					t.Errorf("PLCP of %q and %v is %v", s, a, alike)
				}
			}
		}
	}
}

// P18.1, W5: of nothing, nil or empty, there is nothing, and it is true; beside something nothing is too short.
func TestNothing(t *testing.T) {
	for _, s := range [][]byte{nil, {}, make([]byte, 0, 4), []byte("ab")[:0], []byte("ab")[2:]} {
		for _, a := range [][]int{nil, {}, make([]int, 0, 4), []int{0, 1}[:0], []int{0, 1}[2:], []int{5, -5}[1:1]} {
			acceptAll(t, s, a, nil, nil, nil)
			refuse(t, []byte("a"), a)
			refuse(t, []byte("banana"), a)
		}
		for n := 1; n < 10; n++ {
			refuse(t, s, rising(n))
		}
	}
}

// farNumbers are the least and the greatest numbers there are, and such as say otherwise by their lower digits.
func farNumbers() []int {
	numbers := []int{math.MinInt, math.MinInt + 1, math.MinInt + 2, math.MaxInt, math.MaxInt - 1, -1, -2}
	for _, digits := range []int{8, 16, 31, 32, 62} {
		for more := -2; more <= 2; more++ {
			numbers = append(numbers, 1<<digits+more, more-1<<digits)
		}
	}
	return numbers
}

// P18.1: one byte, whichever it is, has one order alone.
func TestOne(t *testing.T) {
	for b := range 256 {
		s := []byte{byte(b)}
		acceptAll(t, s, []int{0}, []int{-1}, []int{0}, []int{0})
		for v := -300; v <= 300; v++ {
			check(t, s, []int{v})
		}
		for _, v := range farNumbers() {
			refuse(t, s, []int{v})
		}
	}
}

// P18.1: two bytes, all pairs of them, either way round.
func TestTwo(t *testing.T) {
	for one := range 256 {
		for other := range 256 {
			s := []byte{byte(one), byte(other)}
			alike := 0
			if one == other {
				alike = 1
			}
			acceptAll(t, s, []int{0, 1}, []int{-1, 0}, []int{0, alike}, []int{0, alike})
			acceptAll(t, s, []int{1, 0}, []int{1, -1}, []int{alike, 0}, []int{0, alike})
		}
	}
	few := append(farNumbers(), 0, 1, 2, 3)
	for _, one := range few {
		for _, other := range few {
			check(t, []byte("aa"), []int{one, other})
		}
	}
}

// P18.1: one byte again and again: of each place all of the shorter ending is alike, in any order.
func TestOneByteAgain(t *testing.T) {
	number := draw()
	for n := 1; n <= 60; n++ {
		for _, b := range []byte{0, 1, 'a', 0x7f, 0x80, 0xff} {
			s := bytes.Repeat([]byte{b}, n)
			checkSome(t, s)
			acceptAll(t, s, falling(n), append(rising(n)[1:], -1), falling(n), rising(n))
			for _, a := range [][]int{stepped(n, n/2, 1), halves(n), drawnOrder(number, n)} {
				want := make([]int, n)
				for place, before := range aheadInWords(a) {
					if before >= 0 {
						want[place] = n - max(place, before)
					}
				}
				accept(t, calls()[1], s, a, want)
			}
		}
	}
}

// P18.1: no byte twice: none are alike, in any order.
func TestNoByteTwice(t *testing.T) {
	number := draw()
	for n := 1; n <= 256; n += 5 {
		for _, values := range [][]int{rising(256), falling(256), drawnOrder(number, 256)} {
			var s []byte
			for _, v := range values[:n] {
				s = append(s, byte(v))
			}
			noughts := make([]int, n)
			for _, a := range [][]int{rising(n), falling(n), endings(s), halves(n), drawnOrder(number, n)} {
				acceptAll(t, s, a, aheadInWords(a), noughts, noughts)
			}
		}
	}
}

// P18.1: texts of the least and the greatest bytes, and of such as differ by one digit.
func TestLeastAndGreatestBytes(t *testing.T) {
	for _, letters := range []string{"\x00\xff", "\x7f\x80", "\x00\x80", "\xfe\xff", "\x00\x01", "a\xe1"} {
		for n := range 10 {
			for s := range texts(n, letters) {
				checkEndings(t, s)
				check(t, s, rising(n))
				check(t, s, halves(n))
			}
		}
	}
}

// P18.1: one byte that is another one, at each place of a text that else has a short period.
func TestOneOther(t *testing.T) {
	for _, word := range []string{"b", "bc", "bcb", "bbc"} {
		for n := 1; n <= 21; n++ {
			for at := range n {
				for _, other := range []byte{0, 'a', 'b', 'c', 'd', 0xff} {
					s := repeated(word, n)
					s[at] = other
					checkSome(t, s)
				}
			}
		}
	}
}

// P18.1: the least and the greatest numbers there are, in the place of any number of an order.
func TestFarNumbers(t *testing.T) {
	for _, n := range []int{1, 2, 3, 4, 10, 50} {
		s := repeated("ab", n)
		for _, a := range [][]int{rising(n), falling(n), endings(s)} {
			for at, was := range a {
				for _, far := range append(farNumbers(), n, n+1, -n) {
					a[at] = far
					refuse(t, s, a)
				}
				a[at] = was
			}
			check(t, s, a)
		}
	}
}

// P18.1: one number twice and one that is missing: every pair of places.
func TestTwice(t *testing.T) {
	for _, n := range []int{2, 3, 4, 5, 10, 25} {
		s := repeated("aab", n)
		for _, a := range [][]int{rising(n), falling(n), endings(s)} {
			for missing, was := range a {
				for twice := range a {
					if twice != missing {
						a[missing] = a[twice]
						refuse(t, s, a)
					}
				}
				a[missing] = was
			}
			check(t, s, a)
		}
	}
}

// P18.1: orders of more places than the text has, and of fewer, those of its beginnings and its endings among them.
func TestLongerAndShorter(t *testing.T) {
	s := repeated("aabab", 40)
	for long := range s {
		for n := range s {
			for _, a := range [][]int{rising(n), falling(n), endings(s[:n]), endings(s[len(s)-n:])} {
				check(t, s[:long], a)
				if ahead, ok := Ahead(a); !ok || len(ahead) != n {
					t.Errorf("Ahead of an order of %d numbers is %d, %t", n, len(ahead), ok)
				}
			}
		}
	}
}

// P18.1, P18.2: periodic texts, by their order of endings and by others.
func TestPeriodic(t *testing.T) {
	for _, word := range []string{"a", "ab", "ba", "aab", "aba", "baa", "abc", "cba", "abaab", "aabaabab", "abcabcabd", "\x00\xff\x00"} {
		for n := range 70 {
			checkSome(t, repeated(word, n))
		}
	}
	for n := range 120 {
		checkSome(t, joined(n))
	}
}

// P18.1: an order of endings with two places changed, whichever they are.
func TestTwoChanged(t *testing.T) {
	for _, word := range []string{"a", "ab", "aab", "banana", "abcab", "mississippi"} {
		for _, n := range []int{2, 3, 5, 12, 24} {
			s := repeated(word, n)
			up := endings(s)
			for i := range n {
				for j := range i {
					check(t, s, swapped(up, i, j))
				}
			}
		}
	}
}

// P18.1: one word twice, of some bytes, one more, one less, and so on: as many are alike, be it that another byte comes
// then, or that the text is over.
func TestManyAlike(t *testing.T) {
	var lengths []int
	for n := 1; n <= 2048; n *= 2 {
		lengths = append(lengths, n-1, n, n+1)
	}
	number := draw()
	for _, n := range append(lengths, 100, 1000, 1535, 1536, 1537) {
		for _, word := range [][]byte{repeated("a", n), repeated("abc", n), joined(n), drawnText(number, n, 'a', 3)} {
			for _, end := range []string{"y", "yx", "y" + string(word), "", "xy"} {
				s := slices.Concat(word, []byte("x"), word, []byte(end))
				for _, a := range [][]int{endings(s), halves(len(s)), stepped(len(s), n, 1), drawnOrder(number, len(s))} {
					checkLong(t, s, a)
				}
			}
		}
	}
}

// P18.1, P18.2: texts of some hundred bytes of no plain rule, and orders of all kinds.
func TestLongerTexts(t *testing.T) {
	number := draw()
	for _, n := range []int{2, 3, 17, 64, 255, 256, 257, 500} {
		for _, below := range []int{1, 2, 3, 26, 256} {
			s := drawnText(number, n, byte(number(256)), below)
			checkSome(t, s)
			half := s[:n/2+1]
			checkSome(t, slices.Concat(half, half))
			up := endings(s)
			for range 5 {
				check(t, s, swapped(up, number(n), number(n)))
				check(t, s, drawnOrder(number, n))
			}
		}
	}
}

// longTexts are texts of n bytes, of all kinds.
func longTexts(n int) [][]byte {
	number := draw()
	half := drawnText(number, n-n/2, 'a', 3)
	last := repeated("a", n)
	last[n-1] = 'b'
	middle := repeated("ab", n)
	middle[n/2] = 'c'
	return [][]byte{
		repeated("a", n), repeated("ab", n), repeated("aabaabab", n), repeated(string(drawnText(number, 1000, 0, 256)), n), joined(n),
		last, middle, slices.Concat(half, half)[:n], drawnText(number, n, 'a', 2), drawnText(number, n, 0, 256),
	}
}

// P18.1, P18.2: texts of MaxText bytes, by their order of endings, such with two places changed, and orders that are far
// from it; the chapter names no bound, so that longer ones are told of, too.
func TestManyBytes(t *testing.T) {
	number := draw()
	for _, s := range longTexts(api.MaxText) {
		n := len(s)
		up, e := sais.Bytes(s)
		if e != api.OK {
			t.Fatal(e)
		}
		checkFall(t, checkLong(t, s, up))
		for _, a := range [][]int{swapped(up, 0, n-1), swapped(up, n/3, n/2), rising(n), falling(n), halves(n)} {
			checkLong(t, s, a)
		}
	}
	checkLong(t, repeated("aab", api.MaxText), drawnOrder(number, api.MaxText))
	for _, n := range []int{api.MaxText - 1, api.MaxText, api.MaxText + 1, 3 * api.MaxText} {
		for _, s := range [][]byte{repeated("ab", n), joined(n), drawnText(number, n, 'a', 2)} {
			for _, a := range [][]int{falling(n), stepped(n, 3, n-1), stepped(n, n/2, 1)} {
				checkLong(t, s, a)
			}
		}
		checkLong(t, drawnText(number, n, 'a', 4), drawnOrder(number, n))
	}
}

// P18.1: long rows that are no order, and long orders of another length than the text.
func TestManyNumbersRefused(t *testing.T) {
	n := api.MaxText
	s := repeated("a", n)
	for _, a := range [][]int{rising(n), falling(n)} {
		for _, at := range []int{0, 1, n / 2, n - 2, n - 1} {
			was := a[at]
			for _, wrong := range []int{a[(at+1)%n], a[(at+n/2)%n], n, -1, math.MinInt, math.MaxInt} {
				a[at] = wrong
				refuseLong(t, s, a, false)
			}
			a[at] = was
		}
		checkLong(t, s, a)
		for _, other := range [][]byte{s[1:], s[:n-1], s[:1], nil, append(s[:n:n], 'a')} {
			refuseLong(t, other, a, true)
		}
	}
	refuseLong(t, s, make([]int, n), false)
	refuseLong(t, s, nil, true)
	refuseLong(t, s, []int{0}, true)
}

// A text of MaxText bytes and its order of endings take well under a second, even where neighbours have nearly all of it
// alike: the shortest of some calls, as the machine may be busy with others.
func TestManyBytesSoon(t *testing.T) {
	for at, s := range longTexts(api.MaxText) {
		up, _ := sais.Bytes(s)
		for _, a := range [][]int{up, swapped(up, 0, len(up)-1), rising(len(up)), falling(len(up))} {
			least := time.Hour
			for range 5 {
				began := time.Now()
				LCP(s, a)
				least = min(least, time.Since(began))
			}
			if least > time.Second/2 {
				t.Errorf("LCP of text %d takes %v", at, least)
			}
		}
	}
}

// sample is a text and a row.
type sample struct {
	s string
	a []int
}

// samples are texts and rows whose memory is held against that of answers: orders, and such as are none.
func samples() []sample {
	return []sample{
		{"", []int{}}, {"a", []int{0}}, {"aa", []int{1, 0}}, {"aaaa", []int{0, 1, 2, 3}}, {"aaaa", []int{3, 2, 1, 0}},
		{"banana", []int{5, 3, 1, 0, 4, 2}}, {"abc", []int{2, 0, 1}}, {string(repeated("aab", 33)), stepped(33, 5, 7)},
		{string(repeated("a", 64)), falling(64)}, {string(repeated("ab", 64)), halves(64)},
		{"a", []int{1}}, {"aa", []int{0, 0}}, {"aaa", []int{1, 0}}, {"aa", []int{2, 1, 0}}, {"abc", []int{0, -1, 1}}, {"", []int{0}},
	}
}

// P18.1, W6: neither the text nor the row nor the room around them is changed, and that room is not told of.
func TestWhatIsHandedInStays(t *testing.T) {
	for _, around := range []int{-7, -1, 0, 1, 2, 9, 'a', math.MinInt, math.MaxInt} {
		for _, c := range samples() {
			row := slices.Concat([]int{around, around}, c.a, []int{around, around, around, around})
			text := slices.Concat([]byte{byte(around)}, []byte(c.s), bytes.Repeat([]byte{byte(around)}, 5))
			rowWas, textWas := slices.Clone(row), slices.Clone(text)
			check(t, text[1:1+len(c.s)], row[2:2+len(c.a)])
			if !slices.Equal(row, rowWas) || !bytes.Equal(text, textWas) {
				t.Errorf("%v, %q have become %v, %q", rowWas, textWas, row, text)
			}
		}
	}
	// What would be alike stands behind the end of the text, what is missing in a row behind its own.
	acceptAll(t, []byte("abab")[:2], []int{0, 1}, []int{-1, 0}, []int{0, 0}, []int{0, 0})
	acceptAll(t, []byte("aaaaaa")[:3], []int{0, 1, 2}, []int{-1, 0, 1}, []int{0, 2, 1}, []int{0, 2, 1})
	refuse(t, []byte("aa"), []int{0, 0, 1}[:2])
	refuse(t, []byte("aaa"), []int{0, 1, 2}[:2])
	refuse(t, []byte("aaa")[:2], []int{0, 1, 2})
	acceptAll(t, []byte("aa"), []int{1, 0, 0, -1}[:2], []int{1, -1}, []int{1, 0}, []int{0, 1})
}

// mark lays a number all over a list and the room behind it.
func mark(list []int, number int) {
	list = list[:cap(list)]
	for i := range list {
		list[i] = number
	}
}

// P18.2, W6: what is answered shares no memory with the row, nor the room behind it, whichever of both is written over.
func TestAnswersAreNotTheRow(t *testing.T) {
	for _, c := range samples() {
		for _, spare := range []int{0, 8} {
			a := append(make([]int, 0, len(c.a)+spare), c.a...)
			s := []byte(c.s)
			var answers, were [][]int
			for _, call := range calls() {
				got, _ := call.of(s, a)
				mark(got, -7)
				if !slices.Equal(a, c.a) || slices.Contains(a[:cap(a)], -7) || string(s) != c.s {
					t.Errorf("%v has become %v with what %s answers", c, a[:cap(a)], call.name)
				}
				got, _ = call.of(s, a)
				answers, were = append(answers, got), append(were, slices.Clone(got))
			}
			mark(a, -7)
			clear(s)
			for i, got := range answers {
				if !slices.Equal(got, were[i]) || slices.Contains(got[:cap(got)], -7) {
					t.Errorf("what %s answers of %v has become %v with it", calls()[i].name, c, got[:cap(got)])
				}
			}
		}
	}
}

// P18.2, W6: no two answers share memory, nor the room behind them, be they of one call or of several.
func TestAnswersShareNothing(t *testing.T) {
	for _, c := range samples() {
		var answers [][]int
		for range 3 {
			for _, call := range calls() {
				got, _ := call.of([]byte(c.s), c.a)
				answers = append(answers, got)
			}
		}
		for i, answer := range answers {
			mark(answer, -2-i)
		}
		for i, answer := range answers {
			if slices.ContainsFunc(answer[:cap(answer)], func(v int) bool { return v != -2-i }) {
				t.Errorf("two answers of %v share memory", c)
			}
		}
		// What an answer was written over with is not told of later.
		check(t, []byte(c.s), c.a)
	}
}

// W2, W7: what is answered stays, whatever is called later, and is answered again.
func TestAnswersStay(t *testing.T) {
	for _, call := range calls() {
		for _, c := range samples() {
			got, _ := call.of([]byte(c.s), c.a)
			was := slices.Clone(got)
			for _, later := range samples() {
				call.of([]byte(later.s), later.a)
			}
			if !slices.Equal(got, was) {
				t.Errorf("what %s answers of %v has become %v", call.name, c, got)
			}
			check(t, []byte(c.s), c.a)
		}
	}
}

// orderBy is an order of n numbers that bytes tell: those that are less come first, each by what it says.
func orderBy(b []byte, n int) []int {
	row := rising(n)
	slices.SortStableFunc(row, func(i, j int) int { return cmp.Compare(b[i%len(b)], b[j%len(b)]) })
	return row
}

// FuzzPhi takes its text from bytes, by some of their lower digits, and its row from others.
func FuzzPhi(f *testing.F) {
	f.Add([]byte("banana"), []byte{5, 3, 1, 0, 4, 2}, byte(0))
	f.Add([]byte("aaaa"), []byte{0, 1, 2, 3}, byte(1))
	f.Add([]byte{}, []byte{}, byte(2))
	f.Add([]byte("ab"), []byte{255, 254}, byte(7))
	f.Add([]byte("abc"), []byte{0, 1, 1}, byte(3))
	f.Fuzz(func(t *testing.T, s, b []byte, few byte) {
		s = s[:min(len(s), 300)]
		b = b[:min(len(b), 300)]
		// Of few letters: the fuzzer seldom makes texts that come again.
		for i := range s {
			s[i] %= max(few, 1)
		}
		var a []int
		for _, v := range b {
			a = append(a, int(int8(v)))
		}
		check(t, s, a)
		checkEndings(t, s)
		if len(b) > 0 {
			check(t, s, orderBy(b, len(s)))
			if len(s) > 0 {
				check(t, s, swapped(endings(s), int(b[0])%len(s), len(b)%len(s)))
			}
		}
	})
}
