package period

import (
	"bytes"
	"slices"
	"strings"
	"testing"
)

// several are texts of none, one and many bytes, some of one byte or of one word again and again.
func several() []string {
	every := make([]byte, 256)
	for i := range every {
		every[i] = byte(i)
	}
	texts := []string{
		"", "a", "\x00", "\xff", "ab", "ba", "\x00\xff", "\xff\x00", "\x7f\x80",
		"banana", "mississippi", "abracadabra", "abacabadabacaba", "abacabab", "aabaaab",
		"aaaaaaab", "baaaaaaa", "aaabaaaa", "aabaabaaab", "abaababaabaab",
		"\xff\x00\xff", "\x00\xff\x00", "\x00\x00\x01\x00\x00", "\xff\xff\xfe\xff\xff",
		string(every), string(every) + string(every), string(every) + "\x00",
	}
	for _, word := range []string{"a", "\x00", "\xff", "ab", "ba", "aab", "aba", "\x00\xff", "\xff\x00\x00", "abcabd"} {
		for times := 2; times <= 6; times++ {
			texts = append(texts, strings.Repeat(word, times))
			for cut := 1; cut < len(word); cut++ {
				texts = append(texts, strings.Repeat(word, times)+word[:cut])
			}
		}
	}
	return texts
}

// all are all texts of at most most bytes, of these letters.
func all(letters string, most int) []string {
	texts := []string{""}
	for from := 0; most > 0; most-- {
		end := len(texts)
		for _, text := range texts[from:end] {
			for k := range len(letters) {
				texts = append(texts, text+letters[k:k+1])
			}
		}
		from = end
	}
	return texts
}

// many are the texts that each answer is held against the words at.
func many() []string {
	return slices.Concat(several(), all("ab", 11), all("abc", 7), all("\x00\x80\xff", 6))
}

// border is the length of the longest text that is shorter than s, and both its beginning and its end.
func border(s string) int {
	for n := len(s) - 1; n > 0; n-- {
		if s[:n] == s[len(s)-n:] {
			return n
		}
	}
	return 0
}

// goesOn says whether each byte from p on is the one p ahead of it.
func goesOn(s string, p int) bool {
	for i := p; i < len(s); i++ {
		if s[i] != s[i-p] {
			return false
		}
	}
	return true
}

// period is the least number from 1 on by which s goes on.
func period(s string) int {
	if s == "" {
		return 0
	}
	p := 1
	for !goesOn(s, p) {
		p++
	}
	return p
}

// shortest is the shortest text that s is again and again, and how many times.
func shortest(s string) (string, int) {
	for n := 1; n <= len(s); n++ {
		if times := len(s) / n; strings.Repeat(s[:n], times) == s {
			return s[:n], times
		}
	}
	return "", 0
}

// checkText holds the three answers of one text against the words.
func checkText(t *testing.T, s string) {
	t.Helper()
	b := []byte(s)
	borders := Borders(b)
	if len(borders) != len(s) {
		t.Errorf("Borders(%q) are %d numbers", s, len(borders))
		return
	}
	for i, got := range borders {
		if want := border(s[:i+1]); got != want {
			t.Errorf("Borders(%q) has %d at %d, not %d", s, got, i, want)
		}
	}
	if got, want := Least(b), period(s); got != want {
		t.Errorf("Least(%q) is %d, not %d", s, got, want)
	}
	root, times := Root(b)
	if want, n := shortest(s); string(root) != want || times != n {
		t.Errorf("Root(%q) is %q, %d, not %q, %d", s, root, times, want, n)
	}
}

// P5.1: each text, told by the chapter's words.
func TestEachTextIsWhatTheWordsSay(t *testing.T) {
	for _, s := range many() {
		checkText(t, s)
	}
}

// P5.1: answers that were worked out by hand.
func TestSomeTexts(t *testing.T) {
	for _, c := range []struct {
		s       string
		borders []int
		least   int
		root    string
		times   int
	}{
		{"", nil, 0, "", 0},
		{"a", []int{0}, 1, "a", 1},
		{"\x00", []int{0}, 1, "\x00", 1},
		{"ab", []int{0, 0}, 2, "ab", 1},
		{"aa", []int{0, 1}, 1, "a", 2},
		{"\xff\xff\xff", []int{0, 1, 2}, 1, "\xff", 3},
		{"\x00\xff\x00\xff", []int{0, 0, 1, 2}, 2, "\x00\xff", 2},
		{"aba", []int{0, 0, 1}, 2, "aba", 1},
		{"banana", []int{0, 0, 0, 0, 0, 0}, 6, "banana", 1},
		{"anana", []int{0, 0, 1, 2, 3}, 2, "anana", 1},
		{"aabaaa", []int{0, 1, 0, 1, 2, 2}, 4, "aabaaa", 1},
		{"aabaabaa", []int{0, 1, 0, 1, 2, 3, 4, 5}, 3, "aabaabaa", 1},
		{"abaaba", []int{0, 0, 1, 1, 2, 3}, 3, "aba", 2},
		{"abacabad", []int{0, 0, 1, 0, 1, 2, 3, 0}, 8, "abacabad", 1},
	} {
		b := []byte(c.s)
		root, times := Root(b)
		if !slices.Equal(Borders(b), c.borders) || Least(b) != c.least || string(root) != c.root || times != c.times {
			t.Errorf("of %q, Borders are %v, Least is %d, Root %q, %d", c.s, Borders(b), Least(b), root, times)
		}
	}
}

// The chapter's example.
func TestAbab(t *testing.T) {
	b := []byte("abab")
	root, times := Root(b)
	if !slices.Equal(Borders(b), []int{0, 0, 1, 2}) || Least(b) != 2 || string(root) != "ab" || times != 2 {
		t.Errorf("Borders are %v, Least is %d, Root %q, %d", Borders(b), Least(b), root, times)
	}
}

// P5.1, W5: of no bytes there is nothing, be the list nil or empty.
func TestNoBytes(t *testing.T) {
	for _, b := range [][]byte{nil, {}, []byte("abab")[:0], []byte("abab")[4:]} {
		root, times := Root(b)
		if len(Borders(b)) != 0 || Least(b) != 0 || len(root) != 0 || times != 0 {
			t.Errorf("Borders are %v, Least is %d, Root %q, %d", Borders(b), Least(b), root, times)
		}
	}
}

// P5.1: each one byte goes on by itself, once.
func TestOneByte(t *testing.T) {
	for k := range 256 {
		b := []byte{byte(k)}
		root, times := Root(b)
		if !slices.Equal(Borders(b), []int{0}) || Least(b) != 1 || !bytes.Equal(root, b) || times != 1 {
			t.Errorf("of %v, Borders are %v, Least is %d, Root %v, %d", b, Borders(b), Least(b), root, times)
		}
	}
}

// P5.1: a word again and again goes on by the word, cut short or not; the root asks for whole words.
func TestAWordAgainAndAgain(t *testing.T) {
	for _, word := range []string{"a", "\x00", "\xff", "ab", "\x00\xff", "aab", "abb", "abc", "aaab", "abcabd"} {
		for times := 2; times <= 7; times++ {
			whole := strings.Repeat(word, times)
			root, n := Root([]byte(whole))
			if Least([]byte(whole)) != len(word) || string(root) != word || n != times {
				t.Errorf("of %q, Least is %d, Root %q, %d", whole, Least([]byte(whole)), root, n)
			}
			for cut := 1; cut < len(word); cut++ {
				short := whole + word[:cut]
				root, n := Root([]byte(short))
				if Least([]byte(short)) != len(word) || string(root) != short || n != 1 {
					t.Errorf("of %q, Least is %d, Root %q, %d", short, Least([]byte(short)), root, n)
				}
			}
		}
	}
}

// P5.1: a least period that does not divide the length leaves the whole text, once.
func TestALeastThatDoesNotDivide(t *testing.T) {
	for _, c := range []struct {
		s     string
		least int
	}{
		{"aba", 2}, {"ababa", 2}, {"aabaaab", 4}, {"abacabab", 6}, {"aabaa", 3}, {"abcab", 3},
		{"\x00\xff\x00", 2}, {"\xff\xff\x00\xff", 3}, {"abaababa", 5}, {"abaababaaba", 5},
		{"aaba", 3}, {"aabaaabaab", 7}, {"aabaabaaabaab", 7},
	} {
		b := []byte(c.s)
		root, times := Root(b)
		if Least(b) != c.least || string(root) != c.s || times != 1 {
			t.Errorf("of %q, Least is %d, not %d, Root %q, %d", c.s, Least(b), c.least, root, times)
		}
	}
}

// P5.1: a beginning's borders are those of the whole text, as far as it goes.
func TestBordersOfABeginning(t *testing.T) {
	for _, s := range several() {
		whole := Borders([]byte(s))
		for n := range len(s) + 1 {
			if got := Borders([]byte(s[:n])); !slices.Equal(got, whole[:n]) {
				t.Errorf("Borders(%q) are %v, those of %q %v", s[:n], got, s, whole)
			}
		}
	}
}

// P5.2: Least is the length less the last Border.
func TestLeastByTheLastBorder(t *testing.T) {
	for _, s := range many() {
		b := []byte(s)
		if s == "" {
			continue
		}
		borders := Borders(b)
		if got := Least(b); got != len(s)-borders[len(s)-1] {
			t.Errorf("Least(%q) is %d, the last Border %d", s, got, borders[len(s)-1])
		}
	}
}

// P5.1: the root, as many times as is told, is the text; and a root is its own, once.
func TestTheRootIsTheText(t *testing.T) {
	for _, s := range many() {
		root, times := Root([]byte(s))
		if string(bytes.Repeat(root, times)) != s {
			t.Errorf("Root(%q) is %q, %d", s, root, times)
		}
		if s == "" {
			continue
		}
		if again, once := Root(root); !bytes.Equal(again, root) || once != 1 {
			t.Errorf("Root(%q) is %q, whose own is %q, %d", s, root, again, once)
		}
	}
}

// P5.1: long texts, and such as go back through many borders.
func TestLongTexts(t *testing.T) {
	const n = 100000
	b := bytes.Repeat([]byte{255}, n)
	root, times := Root(b)
	if Borders(b)[n-1] != n-1 || Least(b) != 1 || string(root) != "\xff" || times != n {
		t.Error("of one byte:", Borders(b)[n-1], Least(b), root, times)
	}
	b[n-1] = 0
	if _, times = Root(b); Borders(b)[n-1] != 0 || Least(b) != n || times != 1 {
		t.Error("with another one last:", Borders(b)[n-1], Least(b), times)
	}
	b = bytes.Repeat([]byte("aab"), n)
	root, times = Root(b)
	if Borders(b)[3*n-1] != 3*n-3 || Least(b) != 3 || string(root) != "aab" || times != n {
		t.Error("of a word:", Borders(b)[3*n-1], Least(b), string(root), times)
	}
	b = fibonacci(n)
	root, times = Root(b)
	if want := period(string(b)); Least(b) != want || !bytes.Equal(root, b) || times != 1 {
		t.Error("of words that grow:", Least(b), want, len(root), times)
	}
}

// fibonacci is n bytes, each beginning of which has borders of many lengths.
func fibonacci(n int) []byte {
	a, b := []byte("a"), []byte("ab")
	for len(b) < n {
		a, b = b, slices.Concat(b, a)
	}
	return b[:n]
}

// W6: neither the text nor the room behind it is changed, or told of.
func TestWhatIsHandedInStays(t *testing.T) {
	for _, s := range several() {
		// The text goes on around itself, so that what is read of that would be told.
		room := []byte(s + s + s)
		was := bytes.Clone(room)
		text := room[len(s) : 2*len(s)]
		root, times := Root(text)
		want, n := Root([]byte(s))
		if !slices.Equal(Borders(text), Borders([]byte(s))) || Least(text) != Least([]byte(s)) || !bytes.Equal(root, want) || times != n {
			t.Errorf("of %q the bytes around it are told", s)
		}
		if !bytes.Equal(room, was) {
			t.Errorf("%q has become %q", was, room)
		}
	}
}

// fill turns each byte of a list and of the room behind it.
func fill(b []byte) {
	b = b[:cap(b)]
	for i := range b {
		b[i] ^= 0x55
	}
}

// P5.2, W6: the root shares no memory with the text, whichever of both is turned.
func TestTheRootIsNewMemory(t *testing.T) {
	for _, s := range several() {
		room := []byte(s + s)
		was := bytes.Clone(room)
		text := room[:len(s)]
		root, _ := Root(text)
		fill(root)
		if !bytes.Equal(room, was) {
			t.Errorf("%q has become %q with its root", was, room)
		}
		root, _ = Root(text)
		kept := string(root)
		fill(text)
		if string(root) != kept {
			t.Errorf("the root %q has become %q with its text", kept, root)
		}
	}
}

// P5.2, W6, W7: no answer shares memory with one before it.
func TestAnswersStay(t *testing.T) {
	for _, s := range several() {
		b := []byte(s)
		first, second := Borders(b), Borders(b)
		one, _ := Root(b)
		other, _ := Root(b)
		kept, root := slices.Clone(second), string(other)
		fill(one)
		first = first[:cap(first)]
		for i := range first {
			first[i] = -1
		}
		Least([]byte("aabaab"))
		Borders([]byte("aaaaaa"))
		if !slices.Equal(second, kept) || string(other) != root {
			t.Errorf("of %q answers have become %v, %q", s, second, other)
		}
		checkText(t, s)
	}
}

func FuzzPeriod(f *testing.F) {
	f.Add([]byte("abab"), 1)
	f.Add([]byte("aabaaab"), 3)
	f.Add([]byte{}, 0)
	f.Add([]byte{0, 255}, 5)
	f.Fuzz(func(t *testing.T, b []byte, times int) {
		if len(b) > 200 {
			b = b[:200]
		}
		checkText(t, string(b))
		// A text again and again, and a beginning of it: the fuzzer seldom makes one.
		b = bytes.Repeat(b, 1+times&7)
		checkText(t, string(b))
		checkText(t, string(b[:len(b)-len(b)/5]))
	})
}
