package lyndon

import (
	"bytes"
	"slices"
	"strings"
	"testing"

	"whorl/lex"
)

// several are texts of none, one and many bytes: rising, falling, of one byte or of one word again and again.
func several() []string {
	rising := make([]byte, 256)
	for i := range rising {
		rising[i] = byte(i)
	}
	falling := slices.Clone(rising)
	slices.Reverse(falling)
	texts := []string{
		"", "a", "\x00", "\xff", "ab", "ba", "\x00\xff", "\xff\x00", "\x7f\x80", "\x80\x7f",
		"banana", "mississippi", "abracadabra", "bbbbbbba", "abbbbbbb", "aaaaaaab", "baaaaaaa",
		"aabaaab", "aabaabaaab", "abaababaabaab", "bcaabcaa", "abcabd", "cabbage",
		"\xff\x00\xff", "\x00\xff\x00", "\x00\x00\x01\x00\x00", "\xff\xff\xfe\xff\xff", "\xff\x00\x01\x00",
		string(rising), string(falling), string(rising[100:160]), string(falling[100:160]),
		string(rising) + string(rising), string(falling) + string(falling), string(rising) + string(falling),
		string(falling) + string(rising),
	}
	for _, word := range []string{"a", "\x00", "\xff", "ab", "ba", "aab", "aba", "baa", "\x00\xff", "\xff\x00\x00", "abcabd"} {
		for times := 2; times <= 6; times++ {
			texts = append(texts, strings.Repeat(word, times))
			for cut := 1; cut < len(word); cut++ {
				texts = append(texts, strings.Repeat(word, times)+word[:cut])
			}
		}
	}
	return texts
}

// all are all texts of at most most bytes, of these letters.
func all(letters string, most int) []string {
	texts := []string{""}
	for from := 0; most > 0; most-- {
		end := len(texts)
		for _, text := range texts[from:end] {
			for k := range len(letters) {
				texts = append(texts, text+letters[k:k+1])
			}
		}
		from = end
	}
	return texts
}

// many are the texts that each answer is held against the words at.
func many() []string {
	return slices.Concat(several(), all("ab", 13), all("abc", 8), all("\x00\x80\xff", 6), all("abcd", 6))
}

// is tells whether a text is less than each ending but itself and the empty one, told ending by ending.
func is(s string) bool {
	for i := 1; i < len(s); i++ {
		if s >= s[i:] {
			return false
		}
	}
	return s != ""
}

// parts are the texts of these lengths that a text is; false, if these lengths are not the whole text.
func parts(s string, lengths []int) ([]string, bool) {
	var words []string
	for _, n := range lengths {
		if n < 1 || n > len(s) {
			return nil, false
		}
		words = append(words, s[:n])
		s = s[n:]
	}
	return words, s == ""
}

// fits tells whether a row of lengths is as the chapter asks.
func fits(s string, lengths []int) bool {
	words, whole := parts(s, lengths)
	if !whole {
		return false
	}
	for i, word := range words {
		if !is(word) || i > 0 && words[i-1] < word {
			return false
		}
	}
	return true
}

// rows are all rows of lengths, from 1 on, that come to n.
func rows(n int) [][]int {
	if n == 0 {
		return [][]int{nil}
	}
	var made [][]int
	for first := 1; first <= n; first++ {
		for _, rest := range rows(n - first) {
			made = append(made, slices.Concat([]int{first}, rest))
		}
	}
	return made
}

// checkText holds both answers of one text against the words.
func checkText(t *testing.T, s string) {
	t.Helper()
	b := []byte(s)
	if got := Is(b); got != is(s) {
		t.Errorf("Is(%q) is %t", s, got)
	}
	if got := Factors(b); !fits(s, got) {
		t.Errorf("Factors(%q) is %v", s, got)
	}
}

// P7.1: each text, told by the chapter's words.
func TestEachTextIsWhatTheWordsSay(t *testing.T) {
	for _, s := range many() {
		checkText(t, s)
	}
}

// P7.1: answers that were worked out by hand.
func TestSomeTexts(t *testing.T) {
	for _, c := range []struct {
		s       string
		factors []int
	}{
		{"", nil},
		{"a", []int{1}},
		{"\x00", []int{1}},
		{"\xff", []int{1}},
		{"ab", []int{2}},
		{"ba", []int{1, 1}},
		{"aa", []int{1, 1}},
		{"\x00\xff", []int{2}},
		{"\xff\x00", []int{1, 1}},
		{"\x00\x00", []int{1, 1}},
		{"\xff\xff", []int{1, 1}},
		{"\x7f\x80", []int{2}},
		{"\x80\x7f", []int{1, 1}},
		{"aab", []int{3}},
		{"aba", []int{2, 1}},
		{"baa", []int{1, 1, 1}},
		{"abb", []int{3}},
		{"bab", []int{1, 2}},
		{"abab", []int{2, 2}},
		{"baba", []int{1, 2, 1}},
		{"ababb", []int{5}},
		{"ababa", []int{2, 2, 1}},
		{"abaab", []int{2, 3}},
		{"aabab", []int{5}},
		{"abcabd", []int{6}},
		{"abcabb", []int{3, 3}},
		{"abcabca", []int{3, 3, 1}},
		{"abcabcab", []int{3, 3, 2}},
		{"abcabcaa", []int{3, 3, 1, 1}},
		{"aabaabaaa", []int{3, 3, 1, 1, 1}},
		{"cbad", []int{1, 1, 2}},
		{"mississippi", []int{1, 3, 3, 3, 1}},
		{"abracadabra", []int{7, 3, 1}},
		{"\xff\x00\x01\x00", []int{1, 2, 1}},
		{"\x00\xff\x00", []int{2, 1}},
		{"\x00\xff\x00\xff", []int{2, 2}},
		{"\x00\x00\xff\x00\xff", []int{5}},
	} {
		b := []byte(c.s)
		if !slices.Equal(Factors(b), c.factors) || Is(b) != (len(c.factors) == 1) {
			t.Errorf("of %q, Factors is %v, Is %t", c.s, Factors(b), Is(b))
		}
	}
}

// The chapter's example.
func TestBanana(t *testing.T) {
	b := []byte("banana")
	if got := Factors(b); !slices.Equal(got, []int{1, 2, 2, 1}) || Is(b) {
		t.Errorf("Factors is %v, Is %t", got, Is(b))
	}
}

// P7.1, W5: a text without a byte is not one, and is of none, be the list nil or empty.
func TestNoBytes(t *testing.T) {
	for _, b := range [][]byte{nil, {}, []byte("abab")[:0], []byte("abab")[4:]} {
		if Is(b) || len(Factors(b)) != 0 {
			t.Errorf("Is is %t, Factors %v", Is(b), Factors(b))
		}
	}
}

// P7.1: one byte, whichever, is one; two are one just if they rise.
func TestOneByteAndTwo(t *testing.T) {
	for k := range 256 {
		one := []byte{byte(k)}
		if !Is(one) || !slices.Equal(Factors(one), []int{1}) {
			t.Errorf("of %v, Is is %t, Factors %v", one, Is(one), Factors(one))
		}
		for l := range 256 {
			two := []byte{byte(k), byte(l)}
			want := []int{1, 1}
			if k < l {
				want = []int{2}
			}
			if Is(two) != (k < l) || !slices.Equal(Factors(two), want) {
				t.Errorf("of %v, Is is %t, Factors %v", two, Is(two), Factors(two))
			}
		}
	}
}

// P7.1: one byte again and again is each of its bytes.
func TestOneByteAgainAndAgain(t *testing.T) {
	for _, c := range []byte{0, 1, 'a', 127, 128, 255} {
		for n := 1; n <= 40; n++ {
			b := bytes.Repeat([]byte{c}, n)
			if Is(b) != (n == 1) || !slices.Equal(Factors(b), slices.Repeat([]int{1}, n)) {
				t.Errorf("of %d times %d, Is is %t, Factors %v", n, c, Is(b), Factors(b))
			}
		}
	}
}

// words are short texts, some that are one and some that are not.
func words() []string {
	return slices.Concat(all("ab", 5), all("\x00\x80\xff", 4), []string{"abcabd", "dabcab", "banana", "aabaabb"})
}

// P7.1: a word that Is, again and again, is as many of it, and not one.
func TestAWordThatIsAgainAndAgain(t *testing.T) {
	for _, word := range words() {
		if !is(word) {
			continue
		}
		for times := 1; times <= 5; times++ {
			b := []byte(strings.Repeat(word, times))
			if Is(b) != (times == 1) || !slices.Equal(Factors(b), slices.Repeat([]int{len(word)}, times)) {
				t.Errorf("of %q, Is is %t, Factors %v", b, Is(b), Factors(b))
			}
		}
	}
}

// P7.1: a word that is not one, again and again, is not one either: it has its word behind it as an ending.
func TestAWordThatIsNotAgainAndAgain(t *testing.T) {
	for _, word := range words() {
		if is(word) {
			continue
		}
		for times := 1; times <= 5; times++ {
			s := strings.Repeat(word, times)
			checkText(t, s)
			if Is([]byte(s)) {
				t.Errorf("Is(%q) holds", s)
			}
		}
	}
}

// P7.1: a word again and again and some of it behind: of one that Is, that is as many of it and what the rest is.
func TestAWordAndSomeOfIt(t *testing.T) {
	for _, word := range words() {
		for times := 1; times <= 4; times++ {
			for cut := 1; cut < len(word); cut++ {
				s := strings.Repeat(word, times) + word[:cut]
				checkText(t, s)
				if !is(word) {
					continue
				}
				want := slices.Concat(slices.Repeat([]int{len(word)}, times), Factors([]byte(word[:cut])))
				if got := Factors([]byte(s)); !slices.Equal(got, want) {
					t.Errorf("Factors(%q) is %v, not %v", s, got, want)
				}
			}
		}
	}
}

// P7.1: a word again and again, some of it behind, and then any byte.
func TestAWordSomeOfItAndAnotherByte(t *testing.T) {
	for _, word := range []string{"b", "bd", "bbd", "bdbf", "\x01\xfe", "\x01\x01\x80"} {
		for times := 1; times <= 3; times++ {
			for cut := range len(word) {
				for k := range 256 {
					checkText(t, strings.Repeat(word, times)+word[:cut]+string([]byte{byte(k)}))
				}
			}
		}
	}
}

// P7.1: rising bytes are one, falling ones are each of them.
func TestRisingAndFalling(t *testing.T) {
	for n := 1; n <= 256; n++ {
		rising := make([]byte, n)
		for i := range rising {
			rising[i] = byte(256 - n + i)
		}
		falling := slices.Clone(rising)
		slices.Reverse(falling)
		if !Is(rising) || !slices.Equal(Factors(rising), []int{n}) {
			t.Errorf("of %d rising bytes, Is is %t, Factors %v", n, Is(rising), Factors(rising))
		}
		if Is(falling) != (n == 1) || !slices.Equal(Factors(falling), slices.Repeat([]int{1}, n)) {
			t.Errorf("of %d falling bytes, Is is %t, Factors %v", n, Is(falling), Factors(falling))
		}
		checkText(t, string(falling)+string(rising))
		checkText(t, string(rising)+string(falling))
	}
}

// P7.1: Is, by what lex tells of the endings.
func TestIsByEndings(t *testing.T) {
	for _, s := range many() {
		b := []byte(s)
		want := len(b) > 0
		for i := 1; i < len(b); i++ {
			want = want && lex.Endings(b, 0, i) == -1
		}
		if Is(b) != want {
			t.Errorf("Is(%q) is %t, by its endings %t", s, Is(b), want)
		}
	}
}

// P7.1: the texts are the whole one, each of them Is, and none is less than the one behind it.
func TestFactorsAreTheTextInOrder(t *testing.T) {
	for _, s := range many() {
		lengths := Factors([]byte(s))
		words, whole := parts(s, lengths)
		if !whole || strings.Join(words, "") != s {
			t.Errorf("Factors(%q) is %v, not all of it", s, lengths)
		}
		for i, word := range words {
			if !Is([]byte(word)) {
				t.Errorf("Factors(%q) is %v, and %q is none", s, lengths, word)
			}
			if i > 0 && bytes.Compare([]byte(words[i-1]), []byte(word)) < 0 {
				t.Errorf("Factors(%q) is %v, and %q is less than %q behind it", s, lengths, words[i-1], word)
			}
		}
	}
}

// P7.2: of all rows of lengths there is just one that fits, and Factors is it.
func TestNoOtherRowFits(t *testing.T) {
	byLength := make([][][]int, 11)
	for n := range byLength {
		byLength[n] = rows(n)
	}
	for _, s := range slices.Concat(all("ab", 10), all("abc", 7), all("\x00\x80\xff", 6), []string{"banana", "abcabcab", "falling"}) {
		lengths := Factors([]byte(s))
		found := 0
		for _, row := range byLength[len(s)] {
			if !fits(s, row) {
				continue
			}
			found++
			if !slices.Equal(row, lengths) {
				t.Errorf("Factors(%q) is %v, and %v fits, too", s, lengths, row)
			}
		}
		if found != 1 {
			t.Errorf("of %q, %d rows fit", s, found)
		}
	}
}

// P7.1, P7.2: Factors is the length alone just if the text Is.
func TestOneFactorJustIfItIs(t *testing.T) {
	for _, s := range many() {
		b := []byte(s)
		if got := Factors(b); Is(b) != slices.Equal(got, []int{len(s)}) || Is(b) != (len(got) == 1) {
			t.Errorf("of %q, Is is %t, Factors %v", s, Is(b), got)
		}
	}
}

// P7.2: the last factor is the least ending, the first the longest beginning that Is.
func TestTheFirstAndTheLast(t *testing.T) {
	for _, s := range many() {
		if s == "" {
			continue
		}
		lengths := Factors([]byte(s))
		long, low := 1, 0
		for i := range len(s) {
			if is(s[:i+1]) {
				long = i + 1
			}
			if s[i:] < s[low:] {
				low = i
			}
		}
		if lengths[0] != long || len(s)-lengths[len(lengths)-1] != low {
			t.Errorf("Factors(%q) is %v, the longest beginning %d, the least ending %d", s, lengths, long, low)
		}
	}
}

// P7.2: texts that Is, put together so that none is less than the one behind it, come back.
func TestRowsComeBack(t *testing.T) {
	var those []string
	for _, word := range slices.Concat(all("ab", 5), all("\x00b\xff", 3)) {
		if is(word) {
			those = append(those, word)
		}
	}
	for _, x := range those {
		for _, y := range those {
			for _, z := range those {
				if x < y || y < z {
					continue
				}
				want := []int{len(x), len(y), len(z)}
				if got := Factors([]byte(x + y + z)); !slices.Equal(got, want) {
					t.Errorf("Factors(%q) is %v, not %v", x+y+z, got, want)
				}
			}
		}
	}
}

// P7.1: long texts, and such of which endings have much alike: none takes as many steps as it has pairs.
func TestLongTexts(t *testing.T) {
	const n = 1000000
	ones := slices.Repeat([]int{1}, n)
	one := bytes.Repeat([]byte{255}, n)
	greater := make([]byte, n)
	greater[n-1] = 1
	within := make([]byte, n)
	within[n/2] = 1
	for _, c := range []struct {
		what    string
		b       []byte
		factors []int
	}{
		{"one byte", one, ones},
		{"a greater one last", greater, []int{n}},
		{"a greater one within", within, slices.Concat([]int{n/2 + 1}, ones[:n-n/2-1])},
		{"a word", bytes.Repeat([]byte("aab"), n), slices.Repeat([]int{3}, n)},
		{"a word that is none", bytes.Repeat([]byte("baa"), n), slices.Concat([]int{1}, slices.Repeat([]int{3}, n-1), []int{1, 1})},
		{"a word, another last", append(bytes.Repeat([]byte("aab"), n), 'b'), []int{3*n + 1}},
		{"a word and some of it", append(bytes.Repeat([]byte("aab"), n), "aa"...), append(slices.Repeat([]int{3}, n), 1, 1)},
		{"long words", bytes.Repeat(greater, 3), []int{n, n, n}},
		{"long words, cut", bytes.Repeat(greater, 3)[:3*n-1], slices.Concat([]int{n, n}, ones[1:])},
	} {
		if got := Factors(c.b); !slices.Equal(got, c.factors) || Is(c.b) != (len(c.factors) == 1) {
			t.Errorf("%s: Factors is %d lengths, not %d, Is %t", c.what, len(got), len(c.factors), Is(c.b))
		}
	}
	for _, k := range []int{10, 100, 987, 1597, 3000} {
		checkText(t, string(fibonacci("a", "ab", k)))
		checkText(t, string(fibonacci("b", "ba", k)))
	}
}

// P7.1: a word twice but for its last byte, the word itself made so again and again: all that is behind each factor
// has been read ahead of it.
func TestWhatIsReadAgain(t *testing.T) {
	word := []byte{0}
	var halves []int
	for high := byte(1); high <= 20; high++ {
		halves = slices.Insert(halves, 0, len(word))
		word = slices.Concat(word, word)
		word[len(word)-1] = high
		if !Is(word) || !slices.Equal(Factors(word), []int{len(word)}) {
			t.Errorf("of %d bytes, Is is %t, Factors %v", len(word), Is(word), Factors(word))
		}
		if cut := word[:len(word)-1]; Is(cut) != (high == 1) || !slices.Equal(Factors(cut), halves) {
			t.Errorf("of %d bytes, Is is %t, Factors %v, not %v", len(cut), Is(cut), Factors(cut), halves)
		}
	}
}

// fibonacci is n bytes of words that grow, whose endings have much alike.
func fibonacci(first, second string, n int) []byte {
	a, b := []byte(first), []byte(second)
	for len(b) < n {
		a, b = b, slices.Concat(b, a)
	}
	return b[:n]
}

// W6: neither the text nor the room around it is changed, or told of.
func TestWhatIsHandedInStays(t *testing.T) {
	for _, s := range several() {
		want := Factors([]byte(s))
		for _, around := range []string{"\x00\x00\x00\x00", "\xff\xff\xff\xff", "abab", s} {
			room := []byte(around + s + around)
			was := bytes.Clone(room)
			text := room[len(around) : len(around)+len(s)]
			if Is(text) != is(s) || !slices.Equal(Factors(text), want) {
				t.Errorf("of %q the bytes around it, %q, are told", s, around)
			}
			if !bytes.Equal(room, was) {
				t.Errorf("%q has become %q", was, room)
			}
		}
	}
}

// fill turns each number of a list and of the room behind it.
func fill(lengths []int) {
	lengths = lengths[:cap(lengths)]
	for i := range lengths {
		lengths[i] ^= 0x55
	}
}

// W6, W7: no answer shares memory with one before it, nor the room behind it, and a later call turns none.
func TestAnswersAreNewMemory(t *testing.T) {
	for _, s := range several() {
		b := []byte(s)
		one, other := Factors(b), Factors(b)
		kept := slices.Clone(other[:cap(other)])
		fill(one)
		Factors([]byte("banana"))
		Is([]byte("abab"))
		if !slices.Equal(other[:cap(other)], kept) {
			t.Errorf("Factors(%q), and the room behind it, has become %v", s, other[:cap(other)])
		}
		if string(b) != s {
			t.Errorf("%q has become %q with its Factors", s, b)
		}
		checkText(t, s)
	}
}

// W7: what is answered stays, though the text is changed.
func TestAnswersStayWithoutTheirText(t *testing.T) {
	for _, s := range several() {
		b := []byte(s)
		lengths := Factors(b)
		for i := range b {
			b[i] ^= 0x55
		}
		if !fits(s, lengths) {
			t.Errorf("Factors(%q) has become %v with its text", s, lengths)
		}
	}
}

func FuzzLyndon(f *testing.F) {
	f.Add([]byte("banana"), 1)
	f.Add([]byte("aabaaab"), 3)
	f.Add([]byte{}, 0)
	f.Add([]byte{255, 0}, 5)
	f.Fuzz(func(t *testing.T, b []byte, times int) {
		if len(b) > 200 {
			b = b[:200]
		}
		checkText(t, string(b))
		// A text again and again, and a beginning of it: the fuzzer seldom makes one.
		b = bytes.Repeat(b, 1+times&7)
		checkText(t, string(b))
		checkText(t, string(b[:len(b)-len(b)/5]))
	})
}
