package omega

import (
	"bytes"
	"slices"
	"strings"
	"testing"

	"whorl/lex"
	"whorl/period"
)

// several are words of none, one and many bytes: rising, falling, of one byte or of one word again and again.
func several() []string {
	rising := make([]byte, 256)
	for i := range rising {
		rising[i] = byte(i)
	}
	falling := slices.Clone(rising)
	slices.Reverse(falling)
	words := []string{
		"", "a", "b", "\x00", "\xff", "ab", "ba", "\x00\xff", "\xff\x00", "\x7f\x80", "\x80\x7f",
		"banana", "mississippi", "abracadabra", "bbbbbbba", "abbbbbbb", "aaaaaaab", "baaaaaaa",
		"aabaaab", "aabaabaaab", "abaababaabaab", "bcaabcaa", "abcabd", "cabbage",
		"\xff\x00\xff", "\x00\xff\x00", "\x00\x00\x01\x00\x00", "\xff\xff\xfe\xff\xff", "\xff\x00\x01\x00",
		string(rising), string(falling), string(rising) + string(rising), string(falling) + string(rising),
	}
	for _, word := range []string{"a", "\x00", "\xff", "ab", "ba", "aab", "aba", "\x00\xff", "abcabd"} {
		for times := 2; times <= 4; times++ {
			words = append(words, strings.Repeat(word, times))
			for cut := 1; cut < len(word); cut++ {
				words = append(words, strings.Repeat(word, times)+word[:cut])
			}
		}
	}
	return words
}

// all are all words of at most most bytes, of these letters.
func all(letters string, most int) []string {
	words := []string{""}
	for from := 0; most > 0; most-- {
		end := len(words)
		for _, word := range words[from:end] {
			for k := range len(letters) {
				words = append(words, word+letters[k:k+1])
			}
		}
		from = end
	}
	return words
}

// sets are sets of words of which each pair is compared.
func sets() [][]string {
	return [][]string{several(), all("ab", 8), all("abc", 5), all("\x00\x80\xff", 4), all("\x00\xff", 6)}
}

// fibonacci are the words, each the one before and the one before that, from first and second on.
func fibonacci(first, second string, number int) []string {
	words := []string{first, second}
	for len(words) < number {
		words = append(words, words[len(words)-1]+words[len(words)-2])
	}
	return words
}

// differ is the first byte that two words without end differ at, told byte by byte, far behind both; -1, if there
// is none. Neither may be empty.
func differ(u, v string) int {
	for k := range 3 * (len(u) + len(v)) {
		if u[k%len(u)] != v[k%len(v)] {
			return k
		}
	}
	return -1
}

// less is -1, 0, 1 by the chapter's words alone.
func less(u, v string) int {
	switch {
	case u == "" && v == "":
		return 0
	case u == "":
		return -1
	case v == "":
		return 1
	}
	k := differ(u, v)
	switch {
	case k < 0:
		return 0
	case u[k%len(u)] < v[k%len(v)]:
		return -1
	}
	return 1
}

// turned is the rotation i, written out.
func turned(s string, i int) string { return s[i:] + s[:i] }

// byteLists are words as bytes.
func byteLists(words []string) [][]byte {
	var lists [][]byte
	for _, word := range words {
		lists = append(lists, []byte(word))
	}
	return lists
}

// inWords is what Turns is to answer, by the chapter's words alone.
func inWords(words []string) [][2]int {
	var turns [][2]int
	for i, word := range words {
		for j := range len(word) {
			turns = append(turns, [2]int{i, j})
		}
	}
	slices.SortFunc(turns, func(a, b [2]int) int {
		if c := less(turned(words[a[0]], a[1]), turned(words[b[0]], b[1])); c != 0 {
			return c
		}
		if a[0] != b[0] {
			return a[0] - b[0]
		}
		return a[1] - b[1]
	})
	return turns
}

// checkCompare holds the answer of one pair, either way round, against the words.
func checkCompare(t *testing.T, u, v string) {
	t.Helper()
	want := less(u, v)
	if got := Compare([]byte(u), []byte(v)); got != want {
		t.Errorf("Compare(%q, %q) is %d, not %d", u, v, got, want)
	}
	if got := Compare([]byte(v), []byte(u)); got != -want {
		t.Errorf("Compare(%q, %q) is %d, not %d", v, u, got, -want)
	}
}

// checkTurns holds the answer of one list against the words.
func checkTurns(t *testing.T, words ...string) {
	t.Helper()
	if got, want := Turns(byteLists(words)), inWords(words); !slices.Equal(got, want) {
		t.Errorf("Turns(%q) is %v, not %v", words, got, want)
	}
}

// P8.1: each pair of words.
func TestEachPairIsWhatTheWordsSay(t *testing.T) {
	for _, words := range sets() {
		for _, u := range words {
			for _, v := range words {
				checkCompare(t, u, v)
			}
		}
	}
}

// P8.1: answers that were worked out by hand.
func TestSomePairs(t *testing.T) {
	for _, c := range []struct {
		u, v string
		want int
	}{
		{"", "", 0}, {"", "a", -1}, {"", "\x00", -1}, {"", "\xff", -1}, {"", "\x00\x00", -1},
		{"a", "a", 0}, {"a", "aa", 0}, {"aa", "aaa", 0}, {"ab", "abab", 0}, {"abab", "ababab", 0},
		{"\x00", "\x00\x00", 0}, {"\xff", "\xff\xff\xff", 0}, {"\x00", "\xff", -1}, {"\x7f", "\x80", -1},
		{"a", "b", -1}, {"a", "ab", -1}, {"b", "ba", 1}, {"a", "a\x00", 1}, {"\x00", "\x00\x01", -1},
		{"\xff", "\xff\x00", 1}, {"\xff\x00", "\xff\x00\xff", -1},
		{"ab", "aba", 1},          // abab, abaa
		{"ba", "bab", -1},         // baba, babb
		{"aba", "abaab", -1},      // abaabaa, abaabab
		{"abaab", "abaababa", 1},  // abaababaabab, abaababaabaa
		{"ab", "abb", -1},         // abab, abba
		{"aab", "aabaa", 1},       // aabaab, aabaaa
		{"abc", "abcab", 1},       // abcabc, abcaba
		{"cab", "cabc", -1},       // caba, cabc
		{"abcabc", "abcabcd", -1}, // abcabca, abcabcd
		{"banana", "bananab", -1}, // bananaban, bananabba
	} {
		if got := Compare([]byte(c.u), []byte(c.v)); got != c.want {
			t.Errorf("Compare(%q, %q) is %d, not %d", c.u, c.v, got, c.want)
		}
		if got := Compare([]byte(c.v), []byte(c.u)); got != -c.want {
			t.Errorf("Compare(%q, %q) is %d, not %d", c.v, c.u, got, -c.want)
		}
	}
}

// The chapter's example: ab is greater.
func TestTheExample(t *testing.T) {
	if got := Compare([]byte("ab"), []byte("aba")); got != 1 {
		t.Errorf("Compare is %d", got)
	}
}

// P8.1, W5: an empty word, be it nil or not, is less than all others, the same as itself.
func TestTheEmptyWordIsLess(t *testing.T) {
	empty := [][]byte{nil, {}, []byte("abab")[:0], []byte("abab")[4:]}
	for _, e := range empty {
		for _, other := range empty {
			if got := Compare(e, other); got != 0 {
				t.Errorf("Compare of two empty ones is %d", got)
			}
		}
		for _, words := range sets() {
			for _, word := range words {
				b := []byte(word)
				if len(b) > 0 && (Compare(e, b) != -1 || Compare(b, e) != 1) {
					t.Errorf("Compare of an empty one and %q is %d, %d", word, Compare(e, b), Compare(b, e))
				}
			}
		}
	}
}

// P8.1: bytes are compared as numbers of 0 to 255, at the first place and behind the shorter one's length.
func TestBytesAreWithoutASign(t *testing.T) {
	for a := range 256 {
		for b := range 256 {
			checkCompare(t, string([]byte{byte(a)}), string([]byte{byte(b)}))
			checkCompare(t, string([]byte{byte(a)}), string([]byte{byte(a), byte(b)}))
			checkCompare(t, string([]byte{byte(a), byte(b)}), string([]byte{byte(a), byte(b), byte(b)}))
		}
	}
}

// P8.1, P8.2: a word, and the same again and again, compare alike with all others.
func TestHowManyTimesDoesNotMatter(t *testing.T) {
	for _, words := range [][]string{all("ab", 4), all("\x00\x80\xff", 2), {"abcabd", "banana", "", "abaab"}} {
		for _, u := range words {
			for _, v := range words {
				want := less(u, v)
				for times := 1; times <= 12; times++ {
					a, b := []byte(strings.Repeat(u, 1+times%4)), []byte(strings.Repeat(v, 1+times/4))
					if got := Compare(a, b); got != want {
						t.Errorf("Compare(%q, %q) is %d, not %d", a, b, got, want)
					}
				}
			}
		}
	}
}

// P8.1: a word and each beginning of it; a word again and again and some of it behind.
func TestABeginning(t *testing.T) {
	for _, words := range [][]string{several(), all("ab", 8), all("\x00\x80\xff", 5)} {
		for _, word := range words {
			for cut := range len(word) {
				checkCompare(t, word, word[:cut])
				checkCompare(t, word, word+word[:cut])
				checkCompare(t, word, word+word+word[:cut])
				checkCompare(t, word[:cut], word+word[:cut])
			}
		}
	}
}

// P8.1: words that are alike up to the shorter one's end, and differ by one byte behind it.
func TestWhatDiffersBehindTheShorterOne(t *testing.T) {
	for _, word := range slices.Concat(several(), all("ab", 6)) {
		if len(word) == 0 || len(word) > 60 {
			continue
		}
		twice := word + word
		for at := range len(twice) {
			for _, by := range []byte{1, 0x80, 0xff} {
				other := []byte(twice)
				other[at] ^= by
				checkCompare(t, word, string(other))
				checkCompare(t, word, string(other[:at+1]))
				checkCompare(t, twice, string(other))
			}
		}
	}
}

// P8.1, P8.2: what differs as late as it can: at the last but one of the bytes that both have together.
func TestWhatDiffersAtTheLast(t *testing.T) {
	for _, letters := range [][2]string{{"b", "a"}, {"a", "b"}, {"\x00", "\xff"}, {"\xff", "\x00"}, {"a", "ab"}, {"b", "ba"}} {
		words := fibonacci(letters[0], letters[1], 16)
		for k := 3; k < len(words); k++ {
			u, v := words[k-1], words[k]
			if at := differ(u, v); at != len(u)+len(v)-2 {
				t.Fatalf("%d and %d bytes differ at %d", len(u), len(v), at)
			}
			checkCompare(t, u, v)
		}
	}
	// Of all short words: wherever it is that they differ.
	found := map[int]int{}
	words := all("ab", 8)
	for _, u := range words {
		for _, v := range words {
			if u != "" && v != "" {
				if at := differ(u, v); at >= 0 {
					found[len(u)+len(v)-at]++
				}
			}
		}
	}
	if found[2] == 0 || found[1] != 0 || found[0] != 0 {
		t.Errorf("%d differ at the last but one, %d at the last, %d behind", found[2], found[1], found[0])
	}
}

// P8.2: 0 just if both have one Root, or are both empty.
func TestTheSameJustByOneRoot(t *testing.T) {
	for _, words := range sets() {
		roots := make([]string, len(words))
		for i, word := range words {
			root, _ := period.Root([]byte(word))
			roots[i] = string(root)
		}
		for i, u := range words {
			for j, v := range words {
				if got := Compare([]byte(u), []byte(v)); (got == 0) != (roots[i] == roots[j]) {
					t.Errorf("Compare(%q, %q) is %d, the roots are %q, %q", u, v, got, roots[i], roots[j])
				}
			}
		}
	}
}

// P8.2: what differs does so within as many bytes as both have together: those of one behind the other tell it.
func TestBothTogetherTell(t *testing.T) {
	for _, words := range sets() {
		for _, u := range words {
			for _, v := range words {
				if u == "" || v == "" {
					continue
				}
				if at := differ(u, v); at >= len(u)+len(v) {
					t.Errorf("%q, %q differ at %d", u, v, at)
				}
				if got := Compare([]byte(u), []byte(v)); got != strings.Compare(u+v, v+u) {
					t.Errorf("Compare(%q, %q) is %d, of both behind one another %d", u, v, got, strings.Compare(u+v, v+u))
				}
			}
		}
	}
}

// P8.1: the other sign the other way round, and of three in order, through the middle one.
func TestTheOrderIsOne(t *testing.T) {
	for _, words := range [][][]byte{byteLists(all("ab", 5)), byteLists(all("\x00\x80\xff", 3)), byteLists(several())} {
		compared := make([][]int, len(words))
		for i, u := range words {
			for _, v := range words {
				compared[i] = append(compared[i], Compare(u, v))
			}
		}
		for i := range words {
			for j := range words {
				if compared[i][j] != -compared[j][i] {
					t.Errorf("%q and %q are not told alike either way round", words[i], words[j])
				}
				for k := range words {
					if compared[i][j] <= 0 && compared[j][k] <= 0 && compared[i][k] != min(compared[i][j], compared[j][k]) {
						t.Errorf("%q, %q, %q are in no order", words[i], words[j], words[k])
					}
				}
			}
		}
	}
}

// P8.1: of one length words are compared as they are, and rotations of one word as lex does.
func TestOfOneLength(t *testing.T) {
	for _, s := range slices.Concat(several(), all("ab", 7), all("\x00\x80\xff", 4)) {
		if len(s) > 60 {
			continue
		}
		for i := range len(s) {
			for j := range len(s) {
				got := Compare([]byte(turned(s, i)), []byte(turned(s, j)))
				if got != lex.Turns([]byte(s), i, j) || got != strings.Compare(turned(s, i), turned(s, j)) {
					t.Errorf("Compare(%q, %q) is %d", turned(s, i), turned(s, j), got)
				}
			}
		}
	}
}

// P8.1, P8.2: long words that are alike for long.
func TestLongWords(t *testing.T) {
	const n = 1000000
	one := bytes.Repeat([]byte("a"), n)
	last := bytes.Repeat([]byte("a"), n)
	last[n-1] = 'b'
	word := bytes.Repeat([]byte("ab"), n)
	for _, c := range []struct {
		what string
		u, v []byte
		want int
	}{
		{"one byte", one, one[1:], 0},
		{"one byte and its root", one[:1], one, 0},
		{"a greater one last", one, last, -1},
		{"a greater one last, and one fewer", one[1:], last, -1},
		{"a greater one last, and cut", last, last[1:], -1},
		{"a word and its root", word, word[:2], 0},
		{"a word and more of it", word[:n], word, 0},
		{"a word, cut", word, word[:n-1], 1},
		{"a word, turned", word[:n], word[1 : n+1], -1},
	} {
		if Compare(c.u, c.v) != c.want || Compare(c.v, c.u) != -c.want {
			t.Errorf("%s: Compare is %d and %d, not %d", c.what, Compare(c.u, c.v), Compare(c.v, c.u), c.want)
		}
	}
	words := fibonacci("b", "a", 30)
	for k := 20; k < len(words); k++ {
		checkCompare(t, words[k-1], words[k])
	}
}

// lists hands over all lists of so many words.
func lists(words []string, number int, each func([]string)) {
	list := make([]string, number)
	var fill func(int)
	fill = func(at int) {
		if at == number {
			each(list)
			return
		}
		for _, word := range words {
			list[at] = word
			fill(at + 1)
		}
	}
	fill(0)
}

// P8.1: Turns of each list of one to four short words, empty ones among them.
func TestEachListIsWhatTheWordsSay(t *testing.T) {
	for _, c := range []struct {
		words  []string
		number int
	}{
		{all("ab", 9), 1}, {all("abc", 6), 1}, {all("\x00\x80\xff", 5), 1}, {several(), 1},
		{all("ab", 5), 2}, {all("\x00\x80\xff", 3), 2}, {all("ab", 3), 3}, {all("\x00\xff", 2), 4},
		{[]string{"", "ab", "ba", "aab", "aba", "baa", "abab", "abaab"}, 4},
	} {
		lists(c.words, c.number, func(list []string) { checkTurns(t, list...) })
	}
}

// P8.1: each pair of the words that are more than a few bytes.
func TestTurnsOfTwo(t *testing.T) {
	for _, u := range several() {
		for _, v := range several() {
			if len(u)+len(v) < 60 {
				checkTurns(t, u, v)
			}
		}
	}
	checkTurns(t, several()...)
}

// P8.1: answers that were worked out by hand.
func TestSomeLists(t *testing.T) {
	for _, c := range []struct {
		words []string
		want  [][2]int
	}{
		{[]string{"a"}, [][2]int{{0, 0}}},
		{[]string{"", "a"}, [][2]int{{1, 0}}},
		{[]string{"a", ""}, [][2]int{{0, 0}}},
		{[]string{"ba"}, [][2]int{{0, 1}, {0, 0}}},
		{[]string{"\xff\x00"}, [][2]int{{0, 1}, {0, 0}}},
		{[]string{"\x80\x7f", "\xff", "\x00"}, [][2]int{{2, 0}, {0, 1}, {0, 0}, {1, 0}}},
		{[]string{"aaa"}, [][2]int{{0, 0}, {0, 1}, {0, 2}}},
		{[]string{"abab"}, [][2]int{{0, 0}, {0, 2}, {0, 1}, {0, 3}}},
		{[]string{"baba"}, [][2]int{{0, 1}, {0, 3}, {0, 0}, {0, 2}}},
		{[]string{"ab", "ab"}, [][2]int{{0, 0}, {1, 0}, {0, 1}, {1, 1}}},
		{[]string{"ab", "ba"}, [][2]int{{0, 0}, {1, 1}, {0, 1}, {1, 0}}},
		{[]string{"ba", "ab"}, [][2]int{{0, 1}, {1, 0}, {0, 0}, {1, 1}}},
		{[]string{"ab", "abab"}, [][2]int{{0, 0}, {1, 0}, {1, 2}, {0, 1}, {1, 1}, {1, 3}}},
		{[]string{"abab", "ab"}, [][2]int{{0, 0}, {0, 2}, {1, 0}, {0, 1}, {0, 3}, {1, 1}}},
		{[]string{"aa", "a", "aaa"}, [][2]int{{0, 0}, {0, 1}, {1, 0}, {2, 0}, {2, 1}, {2, 2}}},
		{[]string{"banana"}, [][2]int{{0, 5}, {0, 3}, {0, 1}, {0, 0}, {0, 4}, {0, 2}}},
		// The factors of banana: a, an, an, b, na, na.
		{[]string{"b", "an", "an", "a"}, [][2]int{{3, 0}, {1, 0}, {2, 0}, {0, 0}, {1, 1}, {2, 1}}},
		// The chapter's example: aab, aba, ab, baa, ba.
		{[]string{"ab", "aba"}, [][2]int{{1, 2}, {1, 0}, {0, 0}, {1, 1}, {0, 1}}},
		{[]string{"", "ab", "", "aba", ""}, [][2]int{{3, 2}, {3, 0}, {1, 0}, {3, 1}, {1, 1}}},
	} {
		if got := Turns(byteLists(c.words)); !slices.Equal(got, c.want) {
			t.Errorf("Turns(%q) is %v, not %v", c.words, got, c.want)
		}
	}
}

// P8.1, W5: of no words there is no rotation, nor of empty ones, be they nil or not.
func TestNoRotations(t *testing.T) {
	for _, words := range [][][]byte{nil, {}, {nil}, {{}}, {nil, {}, nil}, {[]byte("ab")[:0], nil}, make([][]byte, 1000)} {
		if got := Turns(words); len(got) != 0 {
			t.Errorf("Turns(%q) is %v", words, got)
		}
	}
}

// P8.1, W5: an empty word takes a place, and has no rotation, be it nil or not.
func TestEmptyWordsAmongOthers(t *testing.T) {
	want := [][2]int{{4, 0}, {1, 0}, {1, 1}, {2, 0}}
	for _, empty := range [][]byte{nil, {}, []byte("aa")[:0], []byte("aa")[2:]} {
		words := [][]byte{empty, []byte("ab"), []byte("c"), empty, []byte("a"), empty}
		if got := Turns(words); !slices.Equal(got, want) {
			t.Errorf("Turns(%q) is %v, not %v", words, got, want)
		}
	}
}

// P8.1: a word more than once, its rotations, and it again and again, in several places.
func TestTheSameMoreThanOnce(t *testing.T) {
	for _, word := range slices.Concat(all("ab", 5), all("\x00\x80\xff", 3), []string{"abcabd", "banana"}) {
		checkTurns(t, word, word, word, word)
		checkTurns(t, word, word+word, "", word+word+word, word)
		checkTurns(t, word+word+word, "b", word, word+word, "a")
		words := []string{word + word, word}
		for i := range len(word) {
			words = append(words, turned(word, i), turned(word+word, i))
		}
		checkTurns(t, words...)
		slices.Reverse(words)
		checkTurns(t, words...)
	}
}

// held tells whether a row is every rotation of every word once, and in order, by Compare and by places.
func held(words [][]byte, row [][2]int) bool {
	seen := map[[2]int]int{}
	for _, turn := range row {
		seen[turn]++
	}
	total := 0
	for i, word := range words {
		for j := range word {
			if seen[[2]int{i, j}] != 1 {
				return false
			}
		}
		total += len(word)
	}
	for k := 1; k < len(row); k++ {
		a, b := row[k-1], row[k]
		u, v := words[a[0]], words[b[0]]
		switch Compare(slices.Concat(u[a[1]:], u[:a[1]]), slices.Concat(v[b[1]:], v[:b[1]])) {
		case 1:
			return false
		case 0:
			if slices.Compare(a[:], b[:]) >= 0 {
				return false
			}
		}
	}
	return len(row) == total
}

// mixed hands over numbers of no plain rule, 0 to below - 1, the same ones each time.
func mixed() func(below int) int {
	state := uint64(8)
	return func(below int) int {
		state = state*6364136223846793005 + 1442695040888963407
		return int(state>>33) % below
	}
}

// P8.1: many words of many bytes, by Compare.
func TestManyWords(t *testing.T) {
	number := mixed()
	for _, c := range []struct{ number, most, letters int }{
		{1000, 20, 256}, {1000, 20, 2}, {5000, 3, 2}, {5000, 1, 256}, {300, 100, 1}, {2, 5000, 2}, {1, 10000, 256}, {1, 10000, 3},
	} {
		words := make([][]byte, c.number)
		for i := range words {
			words[i] = make([]byte, number(c.most+1))
			for j := range words[i] {
				words[i][j] = byte(255 - number(c.letters))
			}
		}
		if !held(words, Turns(words)) {
			t.Errorf("of %d words of at most %d bytes, of %d letters, Turns is not in order", c.number, c.most, c.letters)
		}
	}
	for _, pair := range [][2]string{{"b", "a"}, {"a", "b"}} {
		words := byteLists(fibonacci(pair[0], pair[1], 14))
		if !held(words, Turns(words)) {
			t.Errorf("of words that grow from %q, Turns is not in order", pair)
		}
	}
}

// P8.1: many bytes, of which much is alike: not as many steps as there are pairs of them.
func TestManyBytesAlike(t *testing.T) {
	const n = 100000
	one := bytes.Repeat([]byte{255}, n)
	last := make([]byte, n)
	last[n-1] = 1
	first := make([]byte, n)
	first[0] = 1
	for _, c := range []struct {
		what  string
		words [][]byte
		at    func(k int) [2]int
	}{
		{"one byte", [][]byte{one}, func(k int) [2]int { return [2]int{0, k} }},
		{"a greater one last", [][]byte{last}, func(k int) [2]int { return [2]int{0, k} }},
		{"a greater one first", [][]byte{first}, func(k int) [2]int { return [2]int{0, (k + 1) % n} }},
		{"a word", [][]byte{bytes.Repeat([]byte("ba"), n/2)}, func(k int) [2]int { return [2]int{0, (2*k + 1 - k/(n/2)) % n} }},
		{"words of one byte", slices.Repeat([][]byte{{0}}, n), func(k int) [2]int { return [2]int{k, 0} }},
		{"words of two", slices.Repeat([][]byte{[]byte("ab")}, n/2), func(k int) [2]int { return [2]int{k % (n / 2), k / (n / 2)} }},
		{"the same one twice", [][]byte{last, last}, func(k int) [2]int { return [2]int{k % 2, k / 2} }},
		{"nearly the same", [][]byte{last, make([]byte, n)}, func(k int) [2]int { return [2]int{1 - k/n, k % n} }},
	} {
		got := Turns(c.words)
		if len(got) != bytesIn(c.words) {
			t.Errorf("%s: Turns is %d", c.what, len(got))
			continue
		}
		for k, turn := range got {
			if turn != c.at(k) {
				t.Errorf("%s: turn %d is %v, not %v", c.what, k, turn, c.at(k))
				break
			}
		}
	}
}

// bytesIn is how many bytes all words have.
func bytesIn(words [][]byte) int {
	total := 0
	for _, word := range words {
		total += len(word)
	}
	return total
}

// P8.1: of a word that grows by those before it, each rotation is as far from the one before in order.
func TestEvenSteps(t *testing.T) {
	for _, pair := range [][2]string{{"b", "a"}, {"\x00", "\xff"}} {
		words := fibonacci(pair[0], pair[1], 25)
		for k := 3; k < len(words); k++ {
			n := len(words[k])
			row := Turns([][]byte{[]byte(words[k])})
			if len(row) != n {
				t.Fatalf("Turns of %d bytes is %d", n, len(row))
			}
			step := row[1][1] - row[0][1] + n
			for i := range row {
				if row[i] != [2]int{0, (row[0][1] + i*step) % n} {
					t.Errorf("of %d bytes turn %d is %v", n, i, row[i])
					break
				}
			}
		}
	}
}

// W6: neither words nor the room around them is changed, kept, or told of, though words share memory.
func TestWhatIsHandedInStays(t *testing.T) {
	for _, u := range []string{"", "a", "ab", "banana", "\xff\x00", "abab"} {
		for _, v := range []string{"", "b", "aba", "nabana", "\x00\xff"} {
			for _, around := range []string{"\x00\x00", "\xff\xff", "ab"} {
				room := []byte(around + u + v + around)
				was := bytes.Clone(room)
				from, mid, to := len(around), len(around)+len(u), len(around)+len(u)+len(v)
				whole := [][]byte{room[from:mid], room[mid:to], room[from:to], room[from:mid], room[:from], nil}
				kept := slices.Clone(whole)
				words := whole[:4]
				if Compare(words[0], words[1]) != less(u, v) || Compare(words[2], words[1]) != less(u+v, v) {
					t.Errorf("of %q and %q the bytes around, %q, are told", u, v, around)
				}
				if got, want := Turns(words), inWords([]string{u, v, u + v, u}); !slices.Equal(got, want) {
					t.Errorf("of %q and %q, amid %q, Turns is %v, not %v", u, v, around, got, want)
				}
				if !bytes.Equal(room, was) {
					t.Errorf("%q has become %q", was, room)
				}
				for i, word := range whole {
					if len(word) != len(kept[i]) || cap(word) != cap(kept[i]) || len(word) > 0 && &word[0] != &kept[i][0] {
						t.Errorf("of %q and %q word %d is another one", u, v, i)
					}
				}
			}
		}
	}
}

// fill turns each number of a list and of the room behind it.
func fill(turns [][2]int) {
	turns = turns[:cap(turns)]
	for i := range turns {
		turns[i][0] ^= 0x55
		turns[i][1] ^= 0x55
	}
}

// W6, W7: no answer shares memory with one before it, nor the room behind it, and stays, whatever is called later.
func TestAnswersAreNewMemory(t *testing.T) {
	for _, texts := range [][]string{nil, {""}, {"a"}, {"banana"}, {"ab", "", "aba", "ab"}, several()} {
		words := byteLists(texts)
		one, other := Turns(words), Turns(words)
		kept := slices.Clone(other[:cap(other)])
		fill(one)
		Turns([][]byte{[]byte("banana"), []byte("abab")})
		Compare([]byte("banana"), []byte("abab"))
		for i, word := range words {
			if string(word) != texts[i] {
				t.Errorf("%q has become %q with its Turns", texts[i], word)
			}
			for j := range word {
				word[j] ^= 0x55
			}
		}
		if !slices.Equal(other[:cap(other)], kept) || !slices.Equal(other, inWords(texts)) {
			t.Errorf("Turns(%q), or the room behind it, has become %v", texts, other[:cap(other)])
		}
		checkTurns(t, texts...)
	}
}

func FuzzOmega(f *testing.F) {
	f.Add([]byte("ab"), []byte("aba"), 1)
	f.Add([]byte("abaab"), []byte("aabab"), 6)
	f.Add([]byte{}, []byte{0}, 0)
	f.Add([]byte{255, 0}, []byte{255}, 5)
	f.Fuzz(func(t *testing.T, u, v []byte, times int) {
		a, b := string(u[:min(len(u), 60)]), string(v[:min(len(v), 60)])
		// A word again and again, and a beginning of it: the fuzzer seldom makes one.
		more := strings.Repeat(a, 1+times&3)
		part := more + a[:len(a)/2]
		for _, x := range []string{a, b, more, part, a + b} {
			for _, y := range []string{a, b, more, part, b + a} {
				checkCompare(t, x, y)
			}
		}
		checkTurns(t, a, b)
		checkTurns(t, b, more, a, part, "")
		checkTurns(t, a+b, b+a, more)
	})
}
