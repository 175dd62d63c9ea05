package kasai

import (
	"bytes"
	"cmp"
	"math"
	"slices"
	"testing"
	"time"

	"whorl/api"
	"whorl/sais"
)

// rows hands over all rows of n numbers, each least to greatest.
func rows(n, least, greatest int, each func([]int)) {
	row := make([]int, 0, n)
	var lay func()
	lay = func() {
		if len(row) == n {
			each(row)
			return
		}
		for v := least; v <= greatest; v++ {
			row = append(row, v)
			lay()
			row = row[:len(row)-1]
		}
	}
	lay()
}

// texts hands over all texts of n of these letters.
func texts(n int, letters string, each func([]byte)) {
	rows(n, 0, len(letters)-1, func(row []int) {
		text := make([]byte, n)
		for i, v := range row {
			text[i] = letters[v]
		}
		each(text)
	})
}

// orders hands over all orders of n numbers.
func orders(n int, each func([]int)) {
	row := counted(n)
	var lay func(int)
	lay = func(from int) {
		if from == n {
			each(row)
			return
		}
		for i := from; i < n; i++ {
			row[from], row[i] = row[i], row[from]
			lay(from + 1)
			row[from], row[i] = row[i], row[from]
		}
	}
	lay(0)
}

// counted is the numbers from 0 on, n of them.
func counted(n int) []int {
	row := make([]int, n)
	for i := range row {
		row[i] = i
	}
	return row
}

// fallen is the numbers from n - 1 down to 0.
func fallen(n int) []int {
	row := counted(n)
	slices.Reverse(row)
	return row
}

// strode is the numbers 0 to n - 1, each a step further on than the one ahead of it, round and round; step and n have no
// divisor together.
func strode(n, from, step int) []int {
	row := make([]int, n)
	for i := range row {
		row[i] = (from + i*step) % n
	}
	return row
}

// apart is an order whose neighbours go by turns from one half of the numbers to the other one.
func apart(n int) []int {
	var row []int
	for i := range n / 2 {
		row = append(row, i, n/2+i)
	}
	if n%2 == 1 {
		row = append(row, n-1)
	}
	return row
}

// mixed hands over numbers of no plain rule, 0 to below - 1, the same ones each time.
func mixed() func(below int) int {
	state := uint64(17)
	return func(below int) int {
		state = state*6364136223846793005 + 1442695040888963407
		return int(state>>33) % below
	}
}

// shuffled is an order of n numbers of no plain rule.
func shuffled(number func(below int) int, n int) []int {
	row := counted(n)
	for i := n - 1; i > 0; i-- {
		j := number(i + 1)
		row[i], row[j] = row[j], row[i]
	}
	return row
}

// mixedText is n of the first so many bytes from a letter on, by no plain rule.
func mixedText(number func(below int) int, n int, from byte, below int) []byte {
	text := make([]byte, n)
	for i := range text {
		text[i] = from + byte(number(below))
	}
	return text
}

// again is n bytes of a word that comes again and again, the last time cut short or not.
func again(word string, n int) []byte {
	return bytes.Repeat([]byte(word), n/len(word)+1)[:n]
}

// grown is n bytes of the text whose beginnings are each the two shorter ones together: all of it comes again, but never
// for long by one period.
func grown(n int) []byte {
	one, two := []byte("a"), []byte("ab")
	for len(two) < n {
		one, two = two, slices.Concat(two, one)
	}
	return two[:n]
}

// changed is an order with the numbers of two places changed for each other.
func changed(a []int, i, j int) []int {
	row := slices.Clone(a)
	row[i], row[j] = row[j], row[i]
	return row
}

// byEndings is all places in order of their endings, each held against others.
func byEndings(s []byte) []int {
	row := counted(len(s))
	slices.SortFunc(row, func(i, j int) int { return bytes.Compare(s[i:], s[j:]) })
	return row
}

// isOrder says whether each number from 0 on is there once, by how often it is there.
func isOrder(a []int) bool {
	for number := range a {
		often := 0
		for _, v := range a {
			if v == number {
				often++
			}
		}
		if often != 1 {
			return false
		}
	}
	return true
}

// commonInWords is how many bytes two endings begin with alike, byte by byte.
func commonInWords(s []byte, i, j int) int {
	n := 0
	for i+n < len(s) && j+n < len(s) && s[i+n] == s[j+n] {
		n++
	}
	return n
}

// inWords is what LCP is to answer of an order of all places.
func inWords(s []byte, a []int) []int {
	var alike []int
	for i := range a {
		if i == 0 {
			alike = append(alike, 0)
		} else {
			alike = append(alike, commonInWords(s, a[i-1], a[i]))
		}
	}
	return alike
}

// accept holds LCP against an answer.
func accept(t *testing.T, s []byte, a, want []int) {
	t.Helper()
	if got, ok := LCP(s, a); !ok || !slices.Equal(got, want) {
		t.Errorf("LCP(%q, %v) is %v, %t, not %v", s, a, got, ok, want)
	}
}

// refuse holds LCP against nothing.
func refuse(t *testing.T, s []byte, a []int) {
	t.Helper()
	if got, ok := LCP(s, a); ok || got != nil {
		t.Errorf("LCP(%q, %v) is %v, %t", s, a, got, ok)
	}
}

// check holds LCP against the words.
func check(t *testing.T, s []byte, a []int) {
	t.Helper()
	if len(a) == len(s) && isOrder(a) {
		accept(t, s, a, inWords(s, a))
	} else {
		refuse(t, s, a)
	}
}

// checkSome holds LCP of a text against the words, by its order of endings and by some others.
func checkSome(t *testing.T, s []byte) {
	t.Helper()
	n := len(s)
	up := byEndings(s)
	down := slices.Clone(up)
	slices.Reverse(down)
	all := [][]int{up, down, slices.Concat(up[n/3:], up[:n/3]), counted(n), fallen(n), apart(n), strode(n, n/2, 1)}
	if n > 1 {
		all = append(all, changed(up, 0, n-1), changed(up, n/2, n-1), changed(up, n/2, n/2-1), changed(up, 0, 1))
	}
	number := mixed()
	all = append(all, shuffled(number, n), shuffled(number, n))
	for _, a := range all {
		check(t, s, a)
	}
}

// checkLong holds LCP of a long text and an order against the words: as many bytes as are told are alike, and the next
// ones aren't, if there are such.
func checkLong(t *testing.T, s []byte, a []int) {
	t.Helper()
	alike, ok := LCP(s, a)
	if !ok || len(alike) != len(a) {
		t.Fatalf("LCP of %d bytes and an order is %d numbers, %t", len(s), len(alike), ok)
	}
	if len(a) > 0 && alike[0] != 0 {
		t.Fatalf("of %d bytes the first place of the order is told to have %d alike", len(s), alike[0])
	}
	for place := 1; place < len(a); place++ {
		one, other := s[a[place-1]:], s[a[place]:]
		n := alike[place]
		if n < 0 || n > min(len(one), len(other)) || !bytes.Equal(one[:n], other[:n]) {
			t.Fatalf("of %d bytes endings %d and %d are told to have %d alike", len(s), a[place-1], a[place], n)
		}
		if n < len(one) && n < len(other) && one[n] == other[n] {
			t.Fatalf("of %d bytes endings %d and %d are told to have %d alike, and no more", len(s), a[place-1], a[place], n)
		}
	}
}

// refuseLong holds LCP of a long text and a row that is none of its orders against nothing.
func refuseLong(t *testing.T, s []byte, a []int) {
	t.Helper()
	if got, ok := LCP(s, a); ok || got != nil {
		t.Errorf("LCP of %d bytes and %d numbers that are no order of its places is %d numbers, %t", len(s), len(a), len(got), ok)
	}
}

// P17.1: the chapter's example.
func TestExample(t *testing.T) {
	accept(t, []byte("banana"), []int{5, 3, 1, 0, 4, 2}, []int{0, 1, 3, 0, 0, 2})
}

// P17.1, P17.2: all short texts of a few letters, and all orders of their places, be they of endings or not.
func TestAllShortTextsAllOrders(t *testing.T) {
	for _, c := range []struct {
		longest int
		letters string
	}{{7, "ab"}, {6, "abc"}, {5, "abcd"}, {4, "\x00\x01\x7f\x80\xff"}} {
		for n := range c.longest + 1 {
			texts(n, c.letters, func(s []byte) {
				orders(n, func(a []int) { accept(t, s, a, inWords(s, a)) })
			})
		}
	}
}

// P17.1: all texts, somewhat longer, by their order of endings, and by some others.
func TestAllShortTexts(t *testing.T) {
	for _, c := range []struct {
		longest int
		letters string
	}{{12, "ab"}, {8, "abc"}, {6, "abcd"}} {
		for n := range c.longest + 1 {
			texts(n, c.letters, func(s []byte) { checkSome(t, s) })
		}
	}
}

// P17.1: all short rows, those that are no order among them, and texts that are longer and shorter.
func TestAllShortRows(t *testing.T) {
	for _, word := range []string{"a", "ab", "aab", "banana"} {
		all := 1
		for n := range 6 {
			all *= max(n, 1)
			found := 0
			rows(n, -1, n+1, func(a []int) {
				for long := range 8 {
					s := again(word, long)
					check(t, s, a)
					if _, ok := LCP(s, a); ok {
						found++
					}
				}
			})
			if found != all {
				t.Errorf("of %d numbers LCP takes %d, not %d", n, found, all)
			}
		}
	}
}

// P17.1, P17.2: by hand.
func TestSomeTexts(t *testing.T) {
	for _, c := range []struct {
		s       string
		a, want []int
	}{
		{"mississippi", []int{10, 7, 4, 1, 0, 9, 8, 6, 3, 5, 2}, []int{0, 1, 1, 4, 0, 0, 1, 0, 2, 1, 3}},
		{"abracadabra", []int{10, 7, 0, 3, 5, 8, 1, 4, 6, 9, 2}, []int{0, 1, 4, 1, 1, 0, 3, 0, 0, 0, 2}},
		{"aaaa", []int{3, 2, 1, 0}, []int{0, 1, 2, 3}},
		{"aaaa", []int{0, 1, 2, 3}, []int{0, 3, 2, 1}},
		{"aaaa", []int{1, 3, 0, 2}, []int{0, 1, 1, 2}},
		{"abab", []int{2, 0, 3, 1}, []int{0, 2, 0, 1}},
		{"abab", []int{0, 2, 1, 3}, []int{0, 2, 0, 1}},
		{"abab", []int{0, 1, 2, 3}, []int{0, 0, 0, 0}},
		{"banana", []int{2, 4, 0, 1, 3, 5}, []int{0, 2, 0, 0, 3, 1}},
		{"banana", []int{0, 1, 2, 3, 4, 5}, []int{0, 0, 0, 0, 0, 0}},
		{"banana", []int{1, 5, 3, 0, 4, 2}, []int{0, 1, 1, 0, 0, 2}},
		{"banana", []int{1, 3, 2, 4, 0, 5}, []int{0, 3, 0, 2, 0, 0}},
		// Endings whose neighbours have many alike, though those of the next places have none, or others ahead.
		{"xabcyabc", []int{1, 5, 0, 6, 3, 2, 7, 4}, []int{0, 3, 0, 0, 0, 0, 0, 0}},
		{"xabcyabc", []int{1, 5, 2, 6, 3, 7, 0, 4}, []int{0, 3, 0, 2, 0, 1, 0, 0}},
		{"xabcyabc", []int{5, 1, 7, 3, 6, 2, 4, 0}, []int{0, 3, 0, 1, 0, 2, 0, 0}},
		// The next neighbours begin alike after all where the former ones did not.
		{"xbcybc", []int{0, 3, 1, 4, 2, 5}, []int{0, 0, 0, 2, 0, 1}},
	} {
		accept(t, []byte(c.s), c.a, c.want)
	}
	for _, c := range []struct {
		s string
		a []int
	}{
		{"abc", nil}, {"abc", []int{0}}, {"abc", []int{0, 1}}, {"abc", []int{2, 1}}, {"abc", []int{0, 1, 2, 3}},
		{"abc", []int{1, 2, 3}}, {"abc", []int{0, 1, 1}}, {"abc", []int{0, 0, 0}}, {"abc", []int{0, 1, 3}},
		{"abc", []int{-1, 0, 1}}, {"abc", []int{0, -2, 2}}, {"", []int{0}}, {"", []int{0, 1}}, {"", []int{-1}},
		{"a", nil}, {"a", []int{1}}, {"a", []int{-1}}, {"a", []int{0, 1}}, {"a", []int{1, 0}},
		// With the empty ending's place, as it is no place of a byte.
		{"banana", []int{6, 5, 3, 1, 0, 4, 2}}, {"banana", []int{6, 5, 3, 1, 0, 4}}, {"aaa", []int{3, 2, 1}},
	} {
		refuse(t, []byte(c.s), c.a)
	}
}

// P17.1, W5: of nothing, nil or empty, there is nothing, and it is true; beside something nothing is too short.
func TestNothing(t *testing.T) {
	for _, s := range [][]byte{nil, {}, make([]byte, 0, 4), []byte("ab")[:0], []byte("ab")[2:]} {
		for _, a := range [][]int{nil, {}, make([]int, 0, 4), []int{0, 1}[:0], []int{0, 1}[2:], []int{5, -5}[1:1]} {
			if got, ok := LCP(s, a); !ok || len(got) != 0 {
				t.Errorf("LCP of nothing is %v, %t", got, ok)
			}
			refuse(t, []byte("a"), a)
			refuse(t, []byte("banana"), a)
		}
		for n := 1; n < 10; n++ {
			refuse(t, s, counted(n))
		}
	}
}

// farNumbers are the least and the greatest numbers there are, and such as say otherwise by their lower digits.
func farNumbers() []int {
	return []int{
		math.MinInt, math.MinInt + 1, math.MinInt32, math.MaxInt, math.MaxInt - 1, math.MaxInt32, math.MaxUint32,
		1 << 8, 1<<8 + 1, 1 << 16, 1<<16 + 1, 1 << 31, 1 << 32, 1<<32 + 1, 1<<32 + 2, -1 << 31, -1 << 32, 1 - 1<<32,
		math.MinInt + 2, -1, -2,
	}
}

// P17.1: one byte, whichever it is, has one order alone.
func TestOne(t *testing.T) {
	for b := range 256 {
		s := []byte{byte(b)}
		accept(t, s, []int{0}, []int{0})
		for v := -300; v <= 300; v++ {
			check(t, s, []int{v})
		}
		for _, v := range farNumbers() {
			refuse(t, s, []int{v})
		}
	}
}

// P17.1: two bytes, all pairs of them, either way round.
func TestTwo(t *testing.T) {
	for one := range 256 {
		for other := range 256 {
			s := []byte{byte(one), byte(other)}
			want := []int{0, 0}
			if one == other {
				want[1] = 1
			}
			accept(t, s, []int{0, 1}, want)
			accept(t, s, []int{1, 0}, want)
		}
	}
	few := append(farNumbers(), 0, 1, 2, 3)
	for _, one := range few {
		for _, other := range few {
			check(t, []byte("aa"), []int{one, other})
		}
	}
}

// P17.1: one byte again and again: neighbours have all of the shorter one alike, in any order.
func TestOneByteAgain(t *testing.T) {
	number := mixed()
	for n := 1; n <= 60; n++ {
		for _, b := range []byte{0, 1, 'a', 0x7f, 0x80, 0xff} {
			s := bytes.Repeat([]byte{b}, n)
			accept(t, s, fallen(n), counted(n))
			accept(t, s, counted(n), append([]int{0}, fallen(n)[:n-1]...))
			for _, a := range [][]int{strode(n, n/2, 1), apart(n), shuffled(number, n)} {
				want := []int{0}
				for i := 1; i < n; i++ {
					want = append(want, n-max(a[i-1], a[i]))
				}
				accept(t, s, a, want)
			}
		}
	}
}

// P17.1: no byte twice: neighbours have none alike, in any order.
func TestNoByteTwice(t *testing.T) {
	number := mixed()
	for n := 1; n <= 256; n += 5 {
		for _, bys := range [][]int{counted(256), fallen(256), shuffled(number, 256)} {
			s := make([]byte, n)
			for i := range s {
				s[i] = byte(bys[i])
			}
			for _, a := range [][]int{counted(n), fallen(n), byEndings(s), apart(n), shuffled(number, n)} {
				accept(t, s, a, make([]int, n))
			}
		}
	}
}

// P17.1: texts of the least and the greatest bytes, and of such as differ by one digit.
func TestLeastAndGreatestBytes(t *testing.T) {
	for _, letters := range []string{"\x00\xff", "\x7f\x80", "\x00\x80", "\xfe\xff", "\x00\x01", "a\xe1"} {
		for n := range 11 {
			texts(n, letters, func(s []byte) {
				check(t, s, byEndings(s))
				check(t, s, counted(n))
				check(t, s, apart(n))
			})
		}
	}
}

// P17.1: one byte that is another one, at each place of a text that else has a short period.
func TestOneOther(t *testing.T) {
	for _, word := range []string{"b", "bc", "bcb", "bbc"} {
		for n := 1; n <= 25; n++ {
			for at := range n {
				for _, other := range []byte{0, 'a', 'b', 'c', 'd', 0xff} {
					s := again(word, n)
					s[at] = other
					checkSome(t, s)
				}
			}
		}
	}
}

// P17.1: the least and the greatest numbers there are, in the place of any number of an order.
func TestFarNumbers(t *testing.T) {
	for _, n := range []int{1, 2, 3, 4, 10, 50} {
		s := again("ab", n)
		for _, a := range [][]int{counted(n), fallen(n), byEndings(s)} {
			for at, was := range a {
				for _, far := range append(farNumbers(), n, n+1, -n) {
					a[at] = far
					refuse(t, s, a)
				}
				a[at] = was
			}
			check(t, s, a)
		}
	}
}

// P17.1: one number twice and one that is missing: every pair of places.
func TestTwice(t *testing.T) {
	for _, n := range []int{2, 3, 4, 5, 10, 25} {
		s := again("aab", n)
		for _, a := range [][]int{counted(n), fallen(n), byEndings(s)} {
			for missing, was := range a {
				for twice := range a {
					if twice != missing {
						a[missing] = a[twice]
						refuse(t, s, a)
					}
				}
				a[missing] = was
			}
			check(t, s, a)
		}
	}
}

// P17.1: orders of more places than the text has, and of fewer, those of its beginnings and its endings among them.
func TestLongerAndShorter(t *testing.T) {
	s := again("aabab", 60)
	for long := range s {
		for n := range 60 {
			for _, a := range [][]int{counted(n), fallen(n), byEndings(s[:n])} {
				if n == long {
					accept(t, s[:long], a, inWords(s[:long], a))
				} else {
					refuse(t, s[:long], a)
				}
			}
		}
	}
}

// P17.1, P17.2: periodic texts, by their order of endings and by others.
func TestPeriodic(t *testing.T) {
	for _, word := range []string{"a", "ab", "ba", "aab", "aba", "baa", "abc", "cba", "abaab", "aabaabab", "abcabcabd", "\x00\xff\x00"} {
		for n := range 70 {
			checkSome(t, again(word, n))
		}
	}
	for n := range 150 {
		checkSome(t, grown(n))
	}
}

// P17.1, P17.2: an order of endings with two places changed, whichever they are.
func TestTwoChanged(t *testing.T) {
	for _, word := range []string{"a", "ab", "aab", "banana", "abcab", "mississippi"} {
		for _, n := range []int{2, 3, 5, 12, 24} {
			s := again(word, n)
			up := byEndings(s)
			for i := range n {
				for j := range i {
					a := changed(up, i, j)
					accept(t, s, a, inWords(s, a))
				}
			}
		}
	}
}

// P17.1: one word twice, of some bytes, one more, one less, and so on: as many are alike, be it that another byte comes
// then, or that the text is over.
func TestManyAlike(t *testing.T) {
	var lengths []int
	for n := 1; n <= 2048; n *= 2 {
		lengths = append(lengths, n-1, n, n+1)
	}
	lengths = append(lengths, 100, 1000, 1535, 1536, 1537, 3000)
	number := mixed()
	for _, n := range lengths {
		for _, word := range [][]byte{again("a", n), again("abc", n), grown(n), mixedText(number, n, 'a', 3)} {
			for _, end := range []string{"y", "yx", "y" + string(word), "", "x"} {
				s := slices.Concat(word, []byte("x"), word, []byte(end))
				want := n
				if end == "x" {
					want++
				}
				if n+1 < len(s) {
					a := slices.Insert(slices.Delete(counted(len(s)), n+1, n+2), 1, n+1)
					if alike, ok := LCP(s, a); !ok || alike[1] != want {
						t.Errorf("of a word of %d bytes, twice, %d are alike, %t", n, alike[1], ok)
					}
					checkLong(t, s, a)
				}
				checkLong(t, s, apart(len(s)))
				checkLong(t, s, byEndings(s))
			}
		}
	}
}

// P17.1, P17.2: texts of some hundred bytes of no plain rule, and orders of all kinds.
func TestLongerTexts(t *testing.T) {
	number := mixed()
	for _, n := range []int{2, 3, 17, 64, 255, 256, 257, 500} {
		for _, below := range []int{1, 2, 3, 26, 256} {
			s := mixedText(number, n, byte(number(256)), below)
			checkSome(t, s)
			half := s[:n/2+1]
			checkSome(t, slices.Concat(half, half))
			up := byEndings(s)
			for range 5 {
				check(t, s, changed(up, number(n), number(n)))
				check(t, s, shuffled(number, n))
			}
		}
	}
}

// P17.2: an order and the one that is it backwards: neighbours have the same alike, told one place further on.
func TestBackwards(t *testing.T) {
	number := mixed()
	for n := 1; n < 80; n++ {
		s := mixedText(number, n, 'a', 2)
		for _, a := range [][]int{byEndings(s), shuffled(number, n), counted(n)} {
			one, _ := LCP(s, a)
			back := slices.Clone(a)
			slices.Reverse(back)
			other, _ := LCP(s, back)
			slices.Reverse(other[1:])
			if !slices.Equal(one, other) {
				t.Errorf("LCP of %q and %v is %v, and backwards %v", s, a, one, other)
			}
		}
	}
}

// longTexts are texts of n bytes, of all kinds.
func longTexts(n int) [][]byte {
	number := mixed()
	half := mixedText(number, n-n/2, 'a', 3)
	last := again("a", n)
	last[n-1] = 'b'
	middle := again("ab", n)
	middle[n/2] = 'c'
	return [][]byte{
		again("a", n), again("ab", n), last, middle, grown(n), again("aabaabab", n), again(string(mixedText(number, 1000, 0, 256)), n),
		slices.Concat(half, half)[:n], mixedText(number, n, 'a', 2), mixedText(number, n, 0, 256),
	}
}

// P17.1, P17.2: a text of MaxText bytes; the chapter names no bound, so that longer ones are told of, too.
func TestManyBytes(t *testing.T) {
	number := mixed()
	for _, s := range longTexts(api.MaxText) {
		n := len(s)
		up, e := sais.Bytes(s)
		if e != api.OK {
			t.Fatal(e)
		}
		for _, a := range [][]int{up, changed(up, 0, n-1), changed(up, n/3, n/2), counted(n), fallen(n), apart(n)} {
			checkLong(t, s, a)
		}
	}
	for _, n := range []int{api.MaxText - 1, api.MaxText, api.MaxText + 1, 3 * api.MaxText} {
		for _, s := range [][]byte{again("ab", n), grown(n), mixedText(number, n, 'a', 2)} {
			for _, a := range [][]int{fallen(n), strode(n, 3, n-1), strode(n, n/2, 1)} {
				checkLong(t, s, a)
			}
		}
		checkLong(t, mixedText(number, n, 'a', 4), shuffled(number, n))
	}
	checkLong(t, again("aab", api.MaxText), shuffled(number, api.MaxText))
}

// P17.1: long rows that are no order, and long orders of another length than the text.
func TestManyNumbersRefused(t *testing.T) {
	n := api.MaxText
	s := again("a", n)
	for _, a := range [][]int{counted(n), fallen(n)} {
		for _, at := range []int{0, 1, n / 2, n - 2, n - 1} {
			was := a[at]
			for _, none := range []int{a[(at+1)%n], a[(at+n/2)%n], n, -1, math.MinInt, math.MaxInt} {
				a[at] = none
				refuseLong(t, s, a)
			}
			a[at] = was
		}
		checkLong(t, s, a)
		refuseLong(t, s[1:], a)
		refuseLong(t, s[:n-1], a)
		refuseLong(t, s[:1], a)
		refuseLong(t, nil, a)
		refuseLong(t, append(s, 'a'), a)
	}
	refuseLong(t, s, make([]int, n))
	refuseLong(t, s, nil)
	refuseLong(t, s, []int{0})
}

// A text of MaxText bytes and its order of endings take well under a second, even where neighbours have nearly all of it
// alike: the shortest of some calls, as the machine may be busy with others.
func TestManyBytesSoon(t *testing.T) {
	for at, s := range longTexts(api.MaxText) {
		up, _ := sais.Bytes(s)
		for _, a := range [][]int{up, changed(up, 0, len(up)-1), counted(len(up)), fallen(len(up))} {
			least := time.Hour
			for range 5 {
				began := time.Now()
				LCP(s, a)
				least = min(least, time.Since(began))
			}
			if least > time.Second/2 {
				t.Errorf("LCP of text %d takes %v", at, least)
			}
		}
	}
}

// memoryCases are texts and rows whose memory is held against that of answers: orders, and such as are none.
func memoryCases() []struct {
	s string
	a []int
} {
	return []struct {
		s string
		a []int
	}{
		{"", []int{}}, {"a", []int{0}}, {"aa", []int{1, 0}}, {"aaaa", []int{0, 1, 2, 3}}, {"aaaa", []int{3, 2, 1, 0}},
		{"banana", []int{5, 3, 1, 0, 4, 2}}, {string(again("aab", 33)), strode(33, 5, 7)}, {string(again("a", 64)), fallen(64)},
		{string(again("ab", 64)), apart(64)},
		{"a", []int{1}}, {"aa", []int{0, 0}}, {"aaa", []int{1, 0}}, {"aa", []int{2, 1, 0}}, {"abc", []int{0, -1, 1}}, {"", []int{0}},
	}
}

// P17.1, W6: neither the text nor the row nor the room around them is changed, and that room is not told of.
func TestWhatIsHandedInStays(t *testing.T) {
	for _, around := range []int{-7, -1, 0, 1, 2, 9, 'a', math.MinInt, math.MaxInt} {
		for _, c := range memoryCases() {
			row := slices.Concat([]int{around, around}, c.a, []int{around, around, around, around})
			text := slices.Concat([]byte{byte(around)}, []byte(c.s), bytes.Repeat([]byte{byte(around)}, 5))
			rowWas, textWas := slices.Clone(row), slices.Clone(text)
			check(t, text[1:1+len(c.s)], row[2:2+len(c.a)])
			if !slices.Equal(row, rowWas) || !bytes.Equal(text, textWas) {
				t.Errorf("%v, %q have become %v, %q", rowWas, textWas, row, text)
			}
		}
	}
	// What would be alike stands behind the end of the text, what is missing in a row behind its own or ahead of it.
	accept(t, []byte("abab")[:2], []int{0, 1}, []int{0, 0})
	accept(t, []byte("aaaaaa")[:3], []int{0, 1, 2}, []int{0, 2, 1})
	accept(t, []byte("bananana")[:6], []int{5, 3, 1, 0, 4, 2}, []int{0, 1, 3, 0, 0, 2})
	refuse(t, []byte("aa"), []int{0, 0, 1}[:2])
	refuse(t, []byte("aaa"), []int{0, 1, 2}[:2])
	refuse(t, []byte("aaa")[:2], []int{0, 1, 2})
	accept(t, []byte("aa"), []int{1, 0, 0, -1}[:2], []int{0, 1})
}

// markedInts lays a number all over a list and the room behind it.
func markedInts(list []int, mark int) {
	list = list[:cap(list)]
	for i := range list {
		list[i] = mark
	}
}

// P17.2, W6: what is answered shares no memory with the row, nor the room behind it, whichever of both is written over.
func TestAnswersAreNotTheRow(t *testing.T) {
	for _, c := range memoryCases() {
		for _, spare := range []int{0, 8} {
			a := append(make([]int, 0, len(c.a)+spare), c.a...)
			s := []byte(c.s)
			got, _ := LCP(s, a)
			markedInts(got, -7)
			if !slices.Equal(a, c.a) || slices.Contains(a[:cap(a)], -7) || string(s) != c.s {
				t.Errorf("%v has become %v with its answer", c, a[:cap(a)])
			}
			got, ok := LCP(s, a)
			markedInts(a, -7)
			clear(s)
			if ok && !slices.Equal(got, inWords([]byte(c.s), c.a)) || slices.Contains(got[:cap(got)], -7) {
				t.Errorf("the answer of %v has become %v with it", c, got[:cap(got)])
			}
		}
	}
}

// P17.2, W6: no two answers share memory, nor the room behind them.
func TestAnswersShareNothing(t *testing.T) {
	for _, c := range memoryCases() {
		var answers [][]int
		for range 4 {
			got, _ := LCP([]byte(c.s), c.a)
			answers = append(answers, got)
		}
		for i, answer := range answers {
			markedInts(answer, -1-i)
		}
		for i, answer := range answers {
			if slices.ContainsFunc(answer[:cap(answer)], func(v int) bool { return v != -1-i }) {
				t.Errorf("two answers of %v share memory", c)
			}
		}
		// What an answer was written over with is not told of later.
		check(t, []byte(c.s), c.a)
	}
}

// W2, W7: what is answered stays, whatever is called later, and is answered again.
func TestAnswersStay(t *testing.T) {
	for _, c := range memoryCases() {
		got, ok := LCP([]byte(c.s), c.a)
		for _, later := range memoryCases() {
			LCP([]byte(later.s), later.a)
		}
		if ok && !slices.Equal(got, inWords([]byte(c.s), c.a)) {
			t.Errorf("the answer of %v has become %v", c, got)
		}
		check(t, []byte(c.s), c.a)
	}
}

// orderBy is an order of n numbers that bytes tell: those that are less come first, each by what it says.
func orderBy(b []byte, n int) []int {
	row := counted(n)
	slices.SortStableFunc(row, func(i, j int) int { return cmp.Compare(b[i%len(b)], b[j%len(b)]) })
	return row
}

// FuzzLCP takes its text from bytes, by some of their lower digits, and its row from others.
func FuzzLCP(f *testing.F) {
	f.Add([]byte("banana"), []byte{5, 3, 1, 0, 4, 2}, byte(0))
	f.Add([]byte("aaaa"), []byte{0, 1, 2, 3}, byte(1))
	f.Add([]byte{}, []byte{}, byte(2))
	f.Add([]byte("ab"), []byte{255, 254}, byte(7))
	f.Add([]byte("abc"), []byte{0, 1, 1}, byte(3))
	f.Fuzz(func(t *testing.T, s, b []byte, few byte) {
		s = s[:min(len(s), 300)]
		b = b[:min(len(b), 300)]
		// Of few letters: the fuzzer seldom makes texts that come again.
		for i := range s {
			s[i] %= max(few, 1)
		}
		var a []int
		for _, v := range b {
			a = append(a, int(int8(v)))
		}
		check(t, s, a)
		if len(b) > 0 {
			check(t, s, orderBy(b, len(s)))
			up := byEndings(s)
			check(t, s, up)
			if len(s) > 0 {
				check(t, s, changed(up, int(b[0])%len(s), len(b)%len(s)))
			}
		}
	})
}
