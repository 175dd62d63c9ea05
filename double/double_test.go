package double

import (
	"cmp"
	"math"
	"slices"
	"strconv"
	"strings"
	"testing"
	"time"

	"whorl/api"
	"whorl/bucket"
)

// most is the greatest k, by chapter 10.
const most = 1048576

// rows hands over all rows of at most so many numbers, each 0 to below - 1.
func rows(longest, below int, each func([]int)) {
	row := make([]int, 0, longest)
	var lay func()
	lay = func() {
		each(row)
		if len(row) == longest {
			return
		}
		for v := range below {
			row = append(row, v)
			lay()
			row = row[:len(row)-1]
		}
	}
	lay()
}

// above is the least k that a row may have.
func above(s []int) int {
	if len(s) == 0 {
		return 0
	}
	return slices.Max(s) + 1
}

// counted is the numbers from 0 on, n of them.
func counted(n int) []int {
	row := make([]int, n)
	for i := range row {
		row[i] = i
	}
	return row
}

// fallen is the numbers from n - 1 down to 0.
func fallen(n int) []int {
	row := counted(n)
	slices.Reverse(row)
	return row
}

// asNumbers is bytes as numbers.
func asNumbers(s []byte) []int {
	var row []int
	for _, b := range s {
		row = append(row, int(b))
	}
	return row
}

// asLetters is a row of numbers as bytes, by the letter of each number.
func asLetters(s []int, letters string) []byte {
	var text []byte
	for _, v := range s {
		text = append(text, letters[v])
	}
	return text
}

// compareEndings compares the endings at i and j number by number; what is the beginning of the other one is less.
func compareEndings[V byte | int](s []V, i, j int) int {
	for ; i < len(s) && j < len(s); i, j = i+1, j+1 {
		if s[i] != s[j] {
			return cmp.Compare(s[i], s[j])
		}
	}
	// The one that is further on is over: it is the beginning of the other one.
	return cmp.Compare(j, i)
}

// byEndings is all places in order of their endings, each held against others.
func byEndings[V byte | int](s []V) []int {
	row := counted(len(s))
	slices.SortFunc(row, func(i, j int) int { return compareEndings(s, i, j) })
	return row
}

// check holds Ints against an answer.
func check(t *testing.T, s []int, k int, want []int) {
	t.Helper()
	if got, e := Ints(s, k); e != api.OK || !slices.Equal(got, want) {
		t.Errorf("Ints(%v, %d) is %v, %v, not %v", s, k, got, e, want)
	}
}

// checkBytes holds Bytes against an answer.
func checkBytes(t *testing.T, s []byte, want []int) {
	t.Helper()
	if got, e := Bytes(s); e != api.OK || !slices.Equal(got, want) {
		t.Errorf("Bytes(%q) is %v, %v, not %v", s, got, e, want)
	}
}

// refuse holds Ints against an error and nothing beside it.
func refuse(t *testing.T, s []int, k int, want api.Errno) {
	t.Helper()
	if got, e := Ints(s, k); e != want || got != nil {
		t.Errorf("Ints of %d numbers, k %d, is %d numbers, %v, not %v", len(s), k, len(got), e, want)
	}
}

// checkKs holds Ints of a row against the words, for k from just above the greatest number on.
func checkKs(t *testing.T, s []int) {
	t.Helper()
	want := byEndings(s)
	for _, k := range []int{above(s), above(s) + 1, above(s) + 300} {
		check(t, s, min(k, most), want)
	}
}

// P15.1: the chapter's example, and that of chapter 13.
func TestExample(t *testing.T) {
	checkRanks(t, []int{1, 0, 1}, 1, []int{1, 0, 1})
	want := []int{5, 3, 1, 0, 4, 2}
	checkBytes(t, []byte("banana"), want)
	check(t, asNumbers([]byte("banana")), 256, want)
	check(t, asNumbers([]byte("banana")), 'n'+1, want)
	check(t, []int{1, 0, 2, 0, 2, 0}, 3, want)
}

// P15.1: all short rows of small numbers.
func TestAllShortRows(t *testing.T) {
	for _, c := range []struct{ longest, below int }{{14, 2}, {9, 3}, {7, 4}, {6, 5}} {
		rows(c.longest, c.below, func(s []int) {
			check(t, s, c.below, byEndings(s))
		})
	}
}

// P15.1: all short rows of small numbers, k just above the greatest number and further above it.
func TestAllShortRowsManyK(t *testing.T) {
	for _, c := range []struct{ longest, below int }{{9, 2}, {6, 3}, {5, 4}} {
		rows(c.longest, c.below, func(s []int) { checkKs(t, s) })
	}
}

// P15.1: all short texts of few letters, the least and the greatest bytes among them.
func TestAllShortTexts(t *testing.T) {
	for _, c := range []struct {
		longest int
		letters string
	}{
		{13, "ab"}, {10, "\x00\xff"}, {10, "\x7f\x80"}, {8, "abc"}, {6, "\x00\x01\xff"}, {6, "\x00\x7f\x80\xff"},
		// Letters that are not in the order of their numbers.
		{7, "\xff\x00a"},
	} {
		rows(c.longest, len(c.letters), func(s []int) {
			text := asLetters(s, c.letters)
			checkBytes(t, text, byEndings(text))
		})
	}
}

// P15.1: by hand.
func TestSomeRows(t *testing.T) {
	for _, c := range []struct {
		s    []int
		k    int
		want []int
	}{
		{nil, 0, nil},
		{nil, 1, nil},
		{nil, most, nil},
		{[]int{0}, 1, []int{0}},
		{[]int{0}, most, []int{0}},
		{[]int{most - 1}, most, []int{0}},
		{[]int{0, 0}, 1, []int{1, 0}},
		{[]int{0, 1}, 2, []int{0, 1}},
		{[]int{1, 0}, 2, []int{1, 0}},
		{[]int{0, 0, 0}, 1, []int{2, 1, 0}},
		{[]int{0, 0, 0, 0}, 1, []int{3, 2, 1, 0}},
		{[]int{1, 0, 1, 0, 1}, 2, []int{3, 1, 4, 2, 0}},
		{[]int{2, 0, 2, 0, 2, 0, 2}, 3, []int{5, 3, 1, 6, 4, 2, 0}},
		{[]int{1, 0, 0, 2, 1}, 3, []int{1, 2, 4, 0, 3}},
		{[]int{most - 1, 0, most - 1, 0}, most, []int{3, 1, 2, 0}},
	} {
		check(t, c.s, c.k, c.want)
	}
	for _, c := range []struct {
		s    string
		want []int
	}{
		{"", nil},
		{"a", []int{0}},
		{"\x00", []int{0}},
		{"\xff", []int{0}},
		{"\x00\xff", []int{0, 1}},
		{"\xff\x00", []int{1, 0}},
		{"\xff\xff\x00\x00", []int{3, 2, 1, 0}},
		{"\x00\x00\xff\x00", []int{3, 0, 1, 2}},
		{"\x7f\x80", []int{0, 1}},
		{"mississippi", []int{10, 7, 4, 1, 0, 9, 8, 6, 3, 5, 2}},
		{"abracadabra", []int{10, 7, 0, 3, 5, 8, 1, 4, 6, 9, 2}},
	} {
		checkBytes(t, []byte(c.s), c.want)
	}
}

// P15.1, W5: nothing, nil or empty, and any k that may be: no places, but no error.
func TestNothing(t *testing.T) {
	for _, none := range [][]int{nil, {}, make([]int, 0, 4), []int{1, 0, 1}[:0], []int{1, 0, 1}[3:]} {
		for _, k := range []int{0, 1, 2, 256, most - 1, most} {
			if got, e := Ints(none, k); e != api.OK || len(got) != 0 {
				t.Errorf("Ints of nothing, k %d, is %v, %v", k, got, e)
			}
		}
	}
	for _, none := range [][]byte{nil, {}, make([]byte, 0, 4), []byte("aba")[:0], []byte("aba")[3:]} {
		if got, e := Bytes(none); e != api.OK || len(got) != 0 {
			t.Errorf("Bytes of nothing is %v, %v", got, e)
		}
	}
}

// P15.1: one number, one byte.
func TestOne(t *testing.T) {
	for _, v := range []int{0, 1, 255, 256, 65535, 65536, most - 2, most - 1} {
		check(t, []int{v}, v+1, []int{0})
		check(t, []int{v}, most, []int{0})
	}
	for b := range 256 {
		checkBytes(t, []byte{byte(b)}, []int{0})
	}
}

// P15.1: two numbers, all two bytes.
func TestTwo(t *testing.T) {
	few := []int{0, 1, 255, 256, 65536, most - 2, most - 1}
	for _, one := range few {
		for _, other := range few {
			s := []int{one, other}
			check(t, s, above(s), byEndings(s))
			check(t, s, most, byEndings(s))
		}
	}
	for one := range 256 {
		for other := range 256 {
			text := []byte{byte(one), byte(other)}
			checkBytes(t, text, byEndings(text))
		}
	}
}

// P15.1: numbers that rise, that fall, that are all the same.
func TestOneWay(t *testing.T) {
	for _, n := range []int{1, 2, 3, 4, 5, 6, 10, 100, 256, 1000, 1001} {
		for _, from := range []int{0, 1, 1000, most - n} {
			rise, fall, same := make([]int, n), make([]int, n), make([]int, n)
			for i := range n {
				rise[i], fall[i], same[i] = from+i, from+n-1-i, from
			}
			for _, k := range []int{from + n, most} {
				check(t, rise, k, counted(n))
				check(t, fall, k, fallen(n))
				check(t, same, k, fallen(n))
			}
		}
	}
	var all []byte
	for b := range 256 {
		all = append(all, byte(b))
		checkBytes(t, all, counted(b+1))
		checkBytes(t, slices.Repeat([]byte{byte(b)}, 50), fallen(50))
	}
	slices.Reverse(all)
	checkBytes(t, all, fallen(256))
}

// P15.1: texts of every length that are the same number again and again, the least byte and the greatest one among them.
func TestSameOfEveryLength(t *testing.T) {
	for n := range 200 {
		for _, v := range []int{0, 1, 255} {
			check(t, slices.Repeat([]int{v}, n), v+1, fallen(n))
			check(t, slices.Repeat([]int{v}, n), 256, fallen(n))
			checkBytes(t, slices.Repeat([]byte{byte(v)}, n), fallen(n))
		}
	}
}

// P15.1: texts of every length whose last numbers are the least there are, or the greatest ones: so many of
// them, behind numbers of many kinds.
func TestLastNumbersOfEveryLength(t *testing.T) {
	number := mixed()
	letters := "\x00\x01\x02" + strings.Repeat("\xff", 37)
	for n := range 60 {
		for last := range min(n, 10) + 1 {
			for _, k := range []int{1, 2, 3, 40} {
				for _, again := range []int{1, 2, 3, 5, n + 1} {
					s := mixedRow(number, n, k, again)
					for _, v := range []int{0, k - 1} {
						for i := n - last; i < n; i++ {
							s[i] = v
						}
						check(t, s, k, byEndings(s))
						text := asLetters(s, letters)
						checkBytes(t, text, byEndings(text))
					}
				}
			}
		}
	}
}

// P15.1: a word again and again, alone, cut short, and with something ahead of it or behind it.
func TestWordsAgain(t *testing.T) {
	words := []string{
		"a", "ab", "ba", "aab", "aba", "abb", "baa", "bab", "abc", "acb", "cab", "bca", "cba", "abac", "abab",
		"banana", "aabab", "abaab", "\x00", "\xff", "\x00\xff", "\xff\x00", "\xff\x00\x00", "abcabd",
	}
	for _, word := range words {
		for _, times := range []int{1, 2, 3, 4, 5, 8, 20} {
			again := strings.Repeat(word, times)
			for _, more := range []string{"", "\x00", "a", "b", "c", "d", "\xff", "ab", "ba", word[:len(word)/2]} {
				for _, text := range []string{again + more, more + again, more + again + more} {
					want := byEndings([]byte(text))
					checkBytes(t, []byte(text), want)
					check(t, asNumbers([]byte(text)), 256, want)
				}
			}
		}
	}
}

// P15.1: k just above the greatest number, far above it, and the greatest one.
func TestKFarAbove(t *testing.T) {
	for _, s := range [][]int{
		nil, {0}, {1, 0}, {0, 1}, {1, 0, 1}, {2, 1, 2, 1, 2, 0, 1}, {1, 0, 2, 0, 2, 0},
		{most - 1, 0, most - 1, most - 2, most - 1}, {most - 1, most - 2, most - 1, most - 2, most - 1},
		{most / 2, 0, 0, most - 1, 1, 1, most / 2}, {most - 1, most - 1}, {0, most - 1, 0, most - 1, 0},
	} {
		want := byEndings(s)
		for _, k := range []int{above(s), above(s) + 1, most/2 + 1, most - 1, most} {
			if k >= above(s) {
				check(t, s, min(k, most), want)
			}
		}
	}
}

// mixed hands over numbers of no plain rule, 0 to below - 1, the same ones each time.
func mixed() func(below int) int {
	state := uint64(14)
	return func(below int) int {
		state = state*6364136223846793005 + 1442695040888963407
		return int(state>>33) % below
	}
}

// mixedRow is n numbers of no plain rule, 0 to k - 1, the first ones of them again and again.
func mixedRow(number func(below int) int, n, k, again int) []int {
	s := make([]int, n)
	for i := range s {
		if i < again {
			s[i] = number(k)
		} else {
			s[i] = s[i-again]
		}
	}
	return s
}

// P15.1: rows of some hundred numbers of few and of many kinds, those that repeat among them.
func TestLongerRows(t *testing.T) {
	number := mixed()
	for _, k := range []int{1, 2, 3, 10, 256, 5000} {
		for _, n := range []int{2, 17, 60, 61, 62, 200, 700, 701, 702} {
			for _, again := range []int{n, 1, 2, 3, 7, n/2 + 1} {
				s := mixedRow(number, n, k, again)
				check(t, s, k, byEndings(s))
				if k <= 256 {
					text := make([]byte, n)
					for i, v := range s {
						text[i] = byte(255 - v)
					}
					checkBytes(t, text, byEndings(text))
				}
			}
		}
	}
}

// grown is a text made of an a by putting for each of its letters that letter's word, until it has so many bytes.
func grown(n int, a, b string) []byte {
	text := "a"
	for len(text) < n {
		text = strings.NewReplacer("a", a, "b", b).Replace(text)
	}
	return []byte(text[:n])
}

// grownTexts are texts of n bytes that are alike at many places, for long, and yet not a word again and again.
func grownTexts(n int) [][]byte {
	var texts [][]byte
	for _, words := range [][2]string{
		{"ab", "a"}, {"ab", "ba"}, {"ab", "aa"}, {"aab", "ab"}, {"aba", "bb"}, {"abb", "a"}, {"aab", "bba"},
	} {
		text := grown(n, words[0], words[1])
		turned := slices.Clone(text)
		slices.Reverse(turned)
		other := slices.Clone(text)
		for i, b := range other {
			other[i] = 'a' + 'b' - b
		}
		texts = append(texts, text, turned, other)
	}
	return texts
}

// P15.1: texts whose endings are alike for long, so that it takes many doublings to tell them apart.
func TestGrownTexts(t *testing.T) {
	for _, n := range []int{1, 2, 5, 13, 21, 27, 34, 64, 81, 82, 83, 100, 500, 729, 987, 1024} {
		for _, text := range grownTexts(n) {
			want := byEndings(text)
			checkBytes(t, text, want)
			check(t, asNumbers(text), 256, want)
		}
	}
}

// P15.1: more than MaxText numbers or bytes is ErrLong, and MaxText of them is not.
func TestLong(t *testing.T) {
	for _, more := range []int{1, 2, 3, 1000, api.MaxText, 1 << 22} {
		n := api.MaxText + more
		refuse(t, make([]int, n), 1, api.ErrLong)
		refuse(t, counted(n), most, api.ErrLong)
		if got, e := Bytes(make([]byte, n)); e != api.ErrLong || got != nil {
			t.Errorf("Bytes of %d is %d numbers, %v", n, len(got), e)
		}
	}
	for _, n := range []int{api.MaxText - 2, api.MaxText - 1, api.MaxText} {
		if got, e := Ints(counted(n), n); e != api.OK || !slices.Equal(got, counted(n)) {
			t.Errorf("Ints of %d numbers is %d numbers, %v", n, len(got), e)
		}
		if got, e := Ints(fallen(n), n); e != api.OK || !slices.Equal(got, fallen(n)) {
			t.Errorf("Ints of %d numbers that fall is %d numbers, %v", n, len(got), e)
		}
		if got, e := Bytes(make([]byte, n)); e != api.OK || !slices.Equal(got, fallen(n)) {
			t.Errorf("Bytes of %d is %d numbers, %v", n, len(got), e)
		}
	}
	// The room behind the end is none of the text.
	if got, e := Bytes(make([]byte, 2, api.MaxText*2)); e != api.OK || len(got) != 2 {
		t.Errorf("Bytes of 2, with room behind, is %v, %v", got, e)
	}
	if got, e := Ints(make([]int, 2, api.MaxText*2), 1); e != api.OK || len(got) != 2 {
		t.Errorf("Ints of 2, with room behind, is %v, %v", got, e)
	}
}

// P15.1, W4: where both errors apply, it is ErrLong; of MaxText numbers that may not be it is ErrArg.
func TestLongAheadOfArg(t *testing.T) {
	long := make([]int, api.MaxText+1)
	for _, k := range []int{0, -1, most + 1, math.MinInt, math.MaxInt} {
		refuse(t, long, k, api.ErrLong)
		refuse(t, long[1:], k, api.ErrArg)
	}
	for _, none := range []int{-1, 5, math.MinInt, math.MaxInt} {
		for _, at := range []int{0, 1, api.MaxText / 2, api.MaxText - 1, api.MaxText} {
			long[at] = none
			refuse(t, long, 5, api.ErrLong)
			if at > 0 {
				refuse(t, long[1:], 5, api.ErrArg)
			}
			long[at] = 0
		}
	}
}

// P15.1: k that may not be is ErrArg, whatever the numbers are.
func TestNoSuchK(t *testing.T) {
	for _, k := range []int{
		-1, -2, -most, math.MinInt, math.MinInt + 1, math.MinInt32, most + 1, most * 2, 1 << 31, 1 << 32, 1<<32 + 2,
		math.MaxInt - 1, math.MaxInt,
	} {
		for _, s := range [][]int{nil, {}, {0}, {1, 0}, {1, 0, 1}, {1, 0, 1, 0, 1}, {k}, {k - 1}, {-1}} {
			refuse(t, s, k, api.ErrArg)
		}
	}
}

// P15.1: a number below 0, and one that is k or more, is ErrArg, wherever it stands.
func TestNoSuchNumber(t *testing.T) {
	for _, s := range [][]int{{0}, {1, 0}, {0, 1}, {1, 0, 1}, {1, 0, 1, 0, 1}, {2, 0, 0, 1, 1, 2, 0, 0, 1, 1}} {
		k := 3
		for _, none := range []int{
			-1, -2, k, k + 1, most, math.MinInt, math.MaxInt, 1 << 32, 1<<32 + 1, -1 << 32, math.MinInt32,
		} {
			for at := range s {
				bad := slices.Clone(s)
				bad[at] = none
				refuse(t, bad, k, api.ErrArg)
			}
		}
		for less := range above(s) {
			refuse(t, s, less, api.ErrArg)
		}
	}
	refuse(t, []int{0}, 0, api.ErrArg)
	refuse(t, []int{most}, most, api.ErrArg)
	refuse(t, []int{0, most - 1}, most-1, api.ErrArg)
}

// P15.1: of all short rows, those below 0 among them, and k from below 0 on, just those that Counts counts are sorted.
func TestJustWhatCounts(t *testing.T) {
	rows(5, 5, func(above0 []int) {
		s := slices.Clone(above0)
		for i := range s {
			s[i]--
		}
		for k := -2; k <= 5; k++ {
			if _, ok := bucket.Counts(s, k); ok {
				check(t, s, k, byEndings(s))
			} else {
				refuse(t, s, k, api.ErrArg)
			}
		}
	})
}

// inOrder tells whether a row is all places, each once, in order of endings: by each one's number, and how the endings
// behind it stand.
func inOrder(s, row []int) bool {
	const none = -1
	rank := slices.Repeat([]int{none}, len(s)+1)
	for i, place := range row {
		if place < 0 || place >= len(s) || rank[place] != none {
			return false
		}
		rank[place] = i
	}
	for i := 1; i < len(row); i++ {
		one, next := row[i-1], row[i]
		if s[one] > s[next] || s[one] == s[next] && rank[one+1] > rank[next+1] {
			return false
		}
	}
	return len(row) == len(s)
}

// P15.1: there is just one such order: of all rows of places just one has each place once, and each ending less than
// the next, and that is the answer.
func TestJustOneOrder(t *testing.T) {
	rows(4, 3, func(s []int) {
		got, e := Ints(s, 3)
		if e != api.OK {
			t.Fatalf("Ints(%v, 3) is %v", s, e)
		}
		orders := 0
		rows(len(s), len(s), func(row []int) {
			if len(row) < len(s) {
				return
			}
			once := slices.Equal(slices.Sorted(slices.Values(row)), counted(len(s)))
			for i := 1; i < len(row); i++ {
				once = once && compareEndings(s, row[i-1], row[i]) < 0
			}
			if once != inOrder(s, row) {
				t.Fatalf("inOrder(%v, %v) is %t", s, row, !once)
			}
			if once {
				orders++
				if !slices.Equal(got, row) {
					t.Errorf("Ints(%v, 3) is %v, not %v", s, got, row)
				}
			}
		})
		if orders != 1 {
			t.Errorf("%v has %d orders", s, orders)
		}
	})
}

// P15.1: each place comes once, and each ending is less than the next.
func TestEachEndingLess(t *testing.T) {
	number := mixed()
	for _, k := range []int{1, 2, 4, 256, most} {
		for _, n := range []int{1500, 1501, 1502} {
			for _, again := range []int{1, 3, 50, n} {
				s := mixedRow(number, n, k, again)
				got, e := Ints(s, k)
				if e != api.OK || !slices.Equal(slices.Sorted(slices.Values(got)), counted(n)) {
					t.Fatalf("of %d numbers, %d kinds, %d again, not each place comes once: %v", n, k, again, e)
				}
				for i := 1; i < n; i++ {
					if compareEndings(s, got[i-1], got[i]) >= 0 {
						t.Fatalf("of %d kinds, %d again, ending %d is not less than %d", k, again, got[i-1], got[i])
					}
				}
			}
		}
	}
}

// P15.1: the order hangs on which number is less, not on the numbers nor on k; bytes are as their numbers.
func TestSameOrder(t *testing.T) {
	number := mixed()
	for _, n := range []int{1, 10, 100, 1000} {
		for range 20 {
			s := mixedRow(number, n, 1+number(6), 1+number(n))
			text, far := make([]byte, n), make([]int, n)
			for i, v := range s {
				text[i], far[i] = byte(v*51), most-1-(5-v)*1000
			}
			want, _ := Ints(s, 6)
			check(t, s, 7, want)
			check(t, far, most, want)
			check(t, asNumbers(text), 256, want)
			checkBytes(t, text, want)
		}
	}
}

// named is a text, and what it is.
type named struct {
	name string
	text []byte
}

// longTexts are texts of n bytes.
func longTexts(n int) []named {
	number := mixed()
	texts := []named{
		{"one letter", slices.Repeat([]byte{'a'}, n)},
		{"byte 0", make([]byte, n)},
		{"byte 255", slices.Repeat([]byte{255}, n)},
		{"two letters by turns", slices.Repeat([]byte("ba"), n)[:n]},
		{"three letters by turns", slices.Repeat([]byte("bac"), n)[:n]},
		{"a word again", slices.Repeat([]byte("banan"), n)[:n]},
		{"a letter, then less", append(slices.Repeat([]byte{'b'}, n-1), 'a')},
		{"a letter, then more", append(slices.Repeat([]byte{'a'}, n-1), 'b')},
		{"two halves", slices.Repeat(append(slices.Repeat([]byte{'a'}, n/2-1), 'b'), 3)[:n]},
	}
	for _, k := range []int{3, 26, 256} {
		for _, again := range []int{n, 1000} {
			text := make([]byte, n)
			for i, v := range mixedRow(number, n, k, again) {
				text[i] = byte(v)
			}
			texts = append(texts, named{strconv.Itoa(k) + " letters, again by " + strconv.Itoa(again), text})
		}
	}
	for i, text := range grownTexts(n) {
		texts = append(texts, named{"grown text " + strconv.Itoa(i), text})
	}
	return texts
}

// wellUnder is well under a second.
const wellUnder = time.Second / 2

// soon tells how long a call takes, the shortest of some: others may have kept the machine busy.
func soon(call func()) time.Duration {
	shortest := time.Hour
	for range 5 {
		began := time.Now()
		call()
		shortest = min(shortest, time.Since(began))
		if shortest < wellUnder {
			break
		}
	}
	return shortest
}

// P15.1: texts of MaxText bytes, and of one less, each in order, and in well under a second.
func TestMaxText(t *testing.T) {
	for _, n := range []int{api.MaxText - 1, api.MaxText} {
		for _, c := range longTexts(n) {
			var got []int
			var e api.Errno
			if took := soon(func() { got, e = Bytes(c.text) }); took >= wellUnder {
				t.Errorf("%s takes %v", c.name, took)
			}
			if len(c.text) != n || e != api.OK || !inOrder(asNumbers(c.text), got) {
				t.Errorf("%s is not in order: %d bytes, %d numbers, %v", c.name, len(c.text), len(got), e)
			}
		}
	}
}

// P15.1: MaxText numbers of many kinds, likewise.
func TestMaxTextNumbers(t *testing.T) {
	number := mixed()
	n := api.MaxText
	for _, k := range []int{1, 2, 256, 65536, n, most} {
		for _, again := range []int{n, n / 2, 1000, 2} {
			s := mixedRow(number, n, k, again)
			var got []int
			var e api.Errno
			if took := soon(func() { got, e = Ints(s, k) }); took >= wellUnder {
				t.Errorf("k %d, %d again, takes %v", k, again, took)
			}
			if e != api.OK || !inOrder(s, got) {
				t.Errorf("k %d, %d again, is not in order: %d numbers, %v", k, again, len(got), e)
			}
		}
	}
}

// memoryCases are rows whose memory is held against that of answers.
func memoryCases() [][]int {
	return [][]int{
		{}, {0}, {1, 0}, {0, 1, 2, 3}, {3, 3, 3}, {1, 0, 1}, {1, 0, 0, 2, 1}, {1, 0, 1, 0, 1}, {1, 0, 2, 0, 2, 0},
		{1, 0, 3, 3, 0, 3, 3, 0, 2, 2, 0}, slices.Repeat([]int{2, 0, 1, 3}, 10),
	}
}

// P15.1, W6: neither what is handed in nor the room around it is changed, or told of, be it refused or not.
func TestWhatIsHandedInStays(t *testing.T) {
	for _, around := range []int{0, 1, 3, -1, math.MaxInt, math.MinInt} {
		for _, c := range memoryCases() {
			room := slices.Concat([]int{around, around}, c, []int{around, around, around, around})
			was := slices.Clone(room)
			s := room[2 : 2+len(c)]
			check(t, s, 4, byEndings(c))
			refuse(t, s, -1, api.ErrArg)
			refuse(t, room[:1+len(c)], min(around, 0), api.ErrArg)
			if !slices.Equal(room, was) {
				t.Errorf("%v has become %v", was, room)
			}
		}
	}
	long := slices.Repeat([]int{5}, api.MaxText+10)
	refuse(t, long[:api.MaxText+1], 6, api.ErrLong)
	if slices.ContainsFunc(long, func(v int) bool { return v != 5 }) {
		t.Errorf("a long row has been changed")
	}
}

// P15.1, W6: likewise, of bytes.
func TestBytesHandedInStay(t *testing.T) {
	for _, around := range []byte{0, 1, 3, 255} {
		for _, c := range memoryCases() {
			text := asLetters(c, "\x00\x01\x02\x03")
			room := slices.Concat([]byte{around, around}, text, []byte{around, around, around, around})
			was := slices.Clone(room)
			checkBytes(t, room[2:2+len(text)], byEndings(text))
			if !slices.Equal(room, was) {
				t.Errorf("%v has become %v", was, room)
			}
		}
	}
	long := slices.Repeat([]byte{5}, api.MaxText+10)
	Bytes(long[:api.MaxText+1])
	if slices.ContainsFunc(long, func(b byte) bool { return b != 5 }) {
		t.Errorf("a long text has been changed")
	}
}

// marked lays a number all over a list and the room behind it.
func marked(list []int, mark int) {
	list = list[:cap(list)]
	for i := range list {
		list[i] = mark
	}
}

// P15.1, W6: what is answered shares no memory with what is handed in, nor the room behind it, whichever of both is
// written over.
func TestAnswersAreNotTheArguments(t *testing.T) {
	for _, c := range memoryCases() {
		want := byEndings(c)
		for _, spare := range []int{0, 16} {
			s := append(make([]int, 0, len(c)+spare), c...)
			got, _ := Ints(s, 4)
			marked(got, -7)
			if slices.Contains(s[:cap(s)], -7) {
				t.Errorf("%v has become %v with its answer", c, s)
			}
			got, _ = Ints(s, 4)
			marked(s, -7)
			if !slices.Equal(got, want) || slices.Contains(got[:cap(got)], -7) {
				t.Errorf("the answer of %v, and the room behind it, has become %v", c, got[:cap(got)])
			}
		}
	}
}

// P15.1, W6: no two answers share memory, nor the room behind them.
func TestAnswersShareNothing(t *testing.T) {
	for _, c := range memoryCases() {
		text := asLetters(c, "\x00\x01\x02\x03")
		want := byEndings(c)
		var answers [][]int
		for range 2 {
			ofInts, _ := Ints(c, 4)
			ofBytes, _ := Bytes(text)
			answers = append(answers, ofInts, ofBytes)
			for h := range len(c) + 2 {
				answers = append(answers, Ranks(c, h))
			}
		}
		for i, answer := range answers {
			marked(answer, -1-i)
		}
		for i, answer := range answers {
			if slices.ContainsFunc(answer[:cap(answer)], func(v int) bool { return v != -1-i }) {
				t.Errorf("two answers of %v share memory", c)
			}
		}
		// What an answer was written over with is not told of later.
		check(t, c, 4, want)
		checkBytes(t, text, want)
		for h := range len(c) + 2 {
			checkRanks(t, c, h, ranksInWords(c, h))
		}
	}
}

// W2, W7: what is answered stays, whatever is called later, and is answered again.
func TestAnswersStay(t *testing.T) {
	for _, c := range memoryCases() {
		want := byEndings(c)
		got, _ := Ints(c, 4)
		ranks := Ranks(c, 2)
		for _, later := range memoryCases() {
			Ints(later, 4)
			Ints(later, 1)
			Bytes(asLetters(later, "dcba"))
			Ranks(later, 2)
			Ranks(later, len(later))
		}
		if !slices.Equal(got, want) {
			t.Errorf("the answer of %v has become %v", c, got)
		}
		if !slices.Equal(ranks, ranksInWords(c, 2)) {
			t.Errorf("the ranks of %v have become %v", c, ranks)
		}
		check(t, c, 4, want)
	}
}

// FuzzDouble takes its numbers from bytes: those from 250 on stand for numbers below 0.
func FuzzDouble(f *testing.F) {
	f.Add([]byte("banana"), 256)
	f.Add([]byte{1, 0, 1, 0, 1}, 2)
	f.Add([]byte{255, 0, 1}, 2)
	f.Add([]byte{}, -1)
	f.Fuzz(func(t *testing.T, b []byte, k int) {
		b = b[:min(len(b), 2000)]
		checkBytes(t, b, byEndings(b))
		var s []int
		for _, v := range b {
			if v >= 250 {
				s = append(s, int(v)-256)
			} else {
				s = append(s, int(v))
			}
		}
		if k >= 0 && k <= most && !slices.ContainsFunc(s, func(v int) bool { return v < 0 || v >= k }) {
			check(t, s, k, byEndings(s))
		} else {
			refuse(t, s, k, api.ErrArg)
		}
		// Rows of few kinds: the fuzzer seldom makes such.
		for i := range s {
			s[i] = (s[i] + 256) % 3
		}
		check(t, s, 3, byEndings(s))
	})
}
