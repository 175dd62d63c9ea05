package least

import (
	"bytes"
	"slices"
	"strings"
	"testing"

	"whorl/lex"
)

// several are texts of none, one and many bytes: rising, falling, of one byte or of one word again and again.
func several() []string {
	rising := make([]byte, 256)
	for i := range rising {
		rising[i] = byte(i)
	}
	falling := slices.Clone(rising)
	slices.Reverse(falling)
	texts := []string{
		"", "a", "\x00", "\xff", "ab", "ba", "\x00\xff", "\xff\x00", "\x7f\x80", "\x80\x7f",
		"banana", "mississippi", "abracadabra", "bbbbbbba", "abbbbbbb", "aaaaaaab", "baaaaaaa",
		"aabaaab", "aabaabaaab", "abaababaabaab", "bcaabcaa", "abcabd", "cabbage",
		"\xff\x00\xff", "\x00\xff\x00", "\x00\x00\x01\x00\x00", "\xff\xff\xfe\xff\xff", "\xff\x00\x01\x00",
		string(rising), string(falling), string(rising[100:160]), string(falling[100:160]),
		string(rising) + string(rising), string(falling) + string(falling), string(rising) + string(falling),
	}
	for _, word := range []string{"a", "\x00", "\xff", "ab", "ba", "aab", "aba", "baa", "\x00\xff", "\xff\x00\x00", "abcabd"} {
		for times := 2; times <= 6; times++ {
			texts = append(texts, strings.Repeat(word, times))
			for cut := 1; cut < len(word); cut++ {
				texts = append(texts, strings.Repeat(word, times)+word[:cut])
			}
		}
	}
	return texts
}

// all are all texts of at most most bytes, of these letters.
func all(letters string, most int) []string {
	texts := []string{""}
	for from := 0; most > 0; most-- {
		end := len(texts)
		for _, text := range texts[from:end] {
			for k := range len(letters) {
				texts = append(texts, text+letters[k:k+1])
			}
		}
		from = end
	}
	return texts
}

// many are the texts that each answer is held against the words at.
func many() []string {
	return slices.Concat(several(), all("ab", 13), all("abc", 8), all("\x00\x80\xff", 6), all("abcd", 6))
}

// turn is the rotation i, written out.
func turn(s string, i int) string { return s[i:] + s[:i] }

// first is the first place whose rotation is the least of all, told rotation by rotation.
func first(s string) int {
	at := 0
	for i := range len(s) {
		if turn(s, i) < turn(s, at) {
			at = i
		}
	}
	return at
}

// checkText holds the three answers of one text against the words.
func checkText(t *testing.T, s string) {
	t.Helper()
	b := []byte(s)
	want := first(s)
	if got := At(b); got != want {
		t.Errorf("At(%q) is %d, not %d", s, got, want)
	}
	if got := Of(b); string(got) != turn(s, want) {
		t.Errorf("Of(%q) is %q, not %q", s, got, turn(s, want))
	}
	if got := Is(b); got != (want == 0) {
		t.Errorf("Is(%q) is %t, the least rotation is that of %d", s, got, want)
	}
}

// P6.1: each text, told by the chapter's words.
func TestEachTextIsWhatTheWordsSay(t *testing.T) {
	for _, s := range many() {
		checkText(t, s)
	}
}

// P6.1: answers that were worked out by hand.
func TestSomeTexts(t *testing.T) {
	for _, c := range []struct {
		s  string
		at int
		of string
	}{
		{"", 0, ""},
		{"a", 0, "a"},
		{"\x00", 0, "\x00"},
		{"\xff", 0, "\xff"},
		{"ab", 0, "ab"},
		{"ba", 1, "ab"},
		{"\x00\xff", 0, "\x00\xff"},
		{"\xff\x00", 1, "\x00\xff"},
		{"\x80\x7f", 1, "\x7f\x80"},
		{"aba", 2, "aab"},
		{"baa", 1, "aab"},
		{"abc", 0, "abc"},
		{"cba", 2, "acb"},
		{"dcba", 3, "adcb"},
		{"banana", 5, "abanan"},
		{"mississippi", 10, "imississipp"},
		{"abracadabra", 10, "aabracadabr"},
		{"aabaaab", 3, "aaabaab"},
		{"bbbbba", 5, "abbbbb"},
		{"baaaaa", 1, "aaaaab"},
		{"\xff\x00\x01\x00", 1, "\x00\x01\x00\xff"},
		{"\x00\xff\x00", 2, "\x00\x00\xff"},
		{"abaab", 2, "aabab"},
		{"bcaabcaa", 2, "aabcaabc"},
	} {
		b := []byte(c.s)
		if At(b) != c.at || string(Of(b)) != c.of || Is(b) != (c.at == 0) {
			t.Errorf("of %q, At is %d, Of %q, Is %t", c.s, At(b), Of(b), Is(b))
		}
	}
}

// The chapter's example.
func TestBab(t *testing.T) {
	b := []byte("bab")
	if At(b) != 1 || string(Of(b)) != "abb" || Is(b) {
		t.Errorf("At is %d, Of %q, Is %t", At(b), Of(b), Is(b))
	}
}

// P6.1, W5: of no bytes At is 0, and so Is holds, be the list nil or empty.
func TestNoBytes(t *testing.T) {
	for _, b := range [][]byte{nil, {}, []byte("baba")[:0], []byte("baba")[4:]} {
		if At(b) != 0 || len(Of(b)) != 0 || !Is(b) {
			t.Errorf("At is %d, Of %q, Is %t", At(b), Of(b), Is(b))
		}
	}
}

// P6.1: one byte, whichever, has one rotation; of two the lesser one comes first.
func TestOneByteAndTwo(t *testing.T) {
	for k := range 256 {
		checkText(t, string([]byte{byte(k)}))
		for l := range 256 {
			checkText(t, string([]byte{byte(k), byte(l)}))
		}
	}
}

// P6.1: all rotations of one byte again and again are the least, and the first is asked.
func TestOneByteAgainAndAgain(t *testing.T) {
	for _, c := range []byte{0, 1, 'a', 127, 128, 255} {
		for n := 1; n <= 40; n++ {
			b := bytes.Repeat([]byte{c}, n)
			if At(b) != 0 || !bytes.Equal(Of(b), b) || !Is(b) {
				t.Errorf("of %d times %d, At is %d, Of %v, Is %t", n, c, At(b), Of(b), Is(b))
			}
		}
	}
}

// P6.1: of a word again and again as many rotations are the least, and the first is within the first word.
func TestAWordAgainAndAgain(t *testing.T) {
	for _, word := range slices.Concat(all("ab", 5), all("\x00\x80\xff", 4), []string{"abcabd", "dabcab", "banana"}) {
		at := first(word)
		for times := 1; times <= 5; times++ {
			b := []byte(strings.Repeat(word, times))
			if At(b) != at || string(Of(b)) != strings.Repeat(turn(word, at), times) || Is(b) != (at == 0) {
				t.Errorf("of %q, At is %d, not %d, Of %q, Is %t", b, At(b), at, Of(b), Is(b))
			}
		}
	}
}

// P6.1: a word again and again and some of it behind, which may well be where the least one begins.
func TestAWordAndSomeOfIt(t *testing.T) {
	for _, word := range slices.Concat(all("ab", 5), all("\x00\x80\xff", 4), []string{"abcabd", "dabcab", "banana"}) {
		for times := 1; times <= 4; times++ {
			for cut := 1; cut < len(word); cut++ {
				checkText(t, strings.Repeat(word, times)+word[:cut])
			}
		}
	}
}

// P6.1: of rising bytes the first is the least, of falling ones the last, of bytes that turn the one between.
func TestRisingAndFalling(t *testing.T) {
	for n := 1; n <= 256; n++ {
		rising := make([]byte, n)
		for i := range rising {
			rising[i] = byte(256 - n + i)
		}
		falling := slices.Clone(rising)
		slices.Reverse(falling)
		if At(rising) != 0 || !bytes.Equal(Of(rising), rising) || !Is(rising) {
			t.Errorf("of %d rising bytes, At is %d, Of %v, Is %t", n, At(rising), Of(rising), Is(rising))
		}
		if At(falling) != n-1 || Is(falling) != (n == 1) {
			t.Errorf("of %d falling bytes, At is %d, Is %t", n, At(falling), Is(falling))
		}
		if of := Of(falling); of[0] != falling[n-1] || !bytes.Equal(of[1:], falling[:n-1]) {
			t.Errorf("of %d falling bytes, Of is %v", n, of)
		}
		checkText(t, string(falling)+string(rising))
		checkText(t, string(rising)+string(falling))
	}
}

// P6.1: no rotation is less than the one at At, and each ahead of it is greater, by lex.
func TestNoRotationIsLess(t *testing.T) {
	for _, s := range many() {
		b := []byte(s)
		at, of := At(b), string(Of(b))
		for i := range len(s) {
			if lex.Turns(b, i, at) < 0 || turn(s, i) < of {
				t.Errorf("of %q rotation %d is less than Of, %q", s, i, of)
			}
			if i < at && lex.Turns(b, i, at) != 1 {
				t.Errorf("of %q rotation %d is the least, too, and ahead of At, %d", s, i, at)
			}
		}
	}
}

// P6.2: all rotations of a text have one Of.
func TestAllRotationsHaveOneOf(t *testing.T) {
	for _, s := range slices.Concat(several(), all("ab", 10), all("abc", 6), all("\x00\x80\xff", 5)) {
		want := string(Of([]byte(s)))
		for i := range len(s) {
			if got := Of([]byte(turn(s, i))); string(got) != want {
				t.Errorf("Of(%q) is %q, that of rotation %d %q", s, want, i, got)
			}
		}
	}
}

// P6.1, P6.2: Of is a rotation of the text, is its own, and Is; and Is tells of a text whether it is its Of.
func TestOfIsItsOwn(t *testing.T) {
	for _, s := range many() {
		b := []byte(s)
		of := Of(b)
		if len(of) != len(s) || !strings.Contains(s+s, string(of)) {
			t.Errorf("Of(%q) is %q, no rotation", s, of)
		}
		if At(of) != 0 || !bytes.Equal(Of(of), of) || !Is(of) {
			t.Errorf("of %q, Of(%q), At is %d, Of %q, Is %t", of, s, At(of), Of(of), Is(of))
		}
		if Is(b) != (At(b) == 0) || Is(b) != bytes.Equal(of, b) {
			t.Errorf("Is(%q) is %t, At %d, Of %q", s, Is(b), At(b), of)
		}
	}
}

// P6.1: long texts, and such of which rotations have much alike: none takes as many steps as it has pairs.
func TestLongTexts(t *testing.T) {
	const n = 1000000
	one := bytes.Repeat([]byte{255}, n)
	last := slices.Clone(one)
	last[n-1] = 0
	greater := make([]byte, n)
	greater[n/2] = 1
	for _, c := range []struct {
		what string
		b    []byte
		at   int
	}{
		{"one byte", one, 0},
		{"a lesser one last", last, n - 1},
		{"a greater one within", greater, n/2 + 1},
		{"a word", bytes.Repeat([]byte("baa"), n), 1},
		{"a word and some of it", append(bytes.Repeat([]byte("aab"), n), "aa"...), 3 * n},
		{"a word, another last", append(bytes.Repeat([]byte("aab"), n), "aaab"...), 3 * n},
		{"long words", bytes.Repeat(last, 3), n - 1},
	} {
		if At(c.b) != c.at || !bytes.Equal(Of(c.b), slices.Concat(c.b[c.at:], c.b[:c.at])) || Is(c.b) != (c.at == 0) {
			t.Errorf("%s: At is %d, not %d, Is %t", c.what, At(c.b), c.at, Is(c.b))
		}
	}
	for _, k := range []int{10, 100, 987, 1597, 3000} {
		checkText(t, string(fibonacci(k)))
	}
}

// fibonacci is n bytes of words that grow, whose rotations have much alike.
func fibonacci(n int) []byte {
	a, b := []byte("b"), []byte("ba")
	for len(b) < n {
		a, b = b, slices.Concat(b, a)
	}
	return b[:n]
}

// W6: neither the text nor the room around it is changed, or told of.
func TestWhatIsHandedInStays(t *testing.T) {
	for _, s := range several() {
		for _, around := range []string{"\x00\x00\x00\x00", "\xff\xff\xff\xff", "abab", s} {
			room := []byte(around + s + around)
			was := bytes.Clone(room)
			text := room[len(around) : len(around)+len(s)]
			at := first(s)
			if At(text) != at || string(Of(text)) != turn(s, at) || Is(text) != (at == 0) {
				t.Errorf("of %q the bytes around it, %q, are told", s, around)
			}
			if !bytes.Equal(room, was) {
				t.Errorf("%q has become %q", was, room)
			}
		}
	}
}

// fill turns each byte of a list and of the room behind it.
func fill(b []byte) {
	b = b[:cap(b)]
	for i := range b {
		b[i] ^= 0x55
	}
}

// P6.2, W6: the rotation shares no memory with the text, whichever of both is turned.
func TestOfIsNewMemory(t *testing.T) {
	for _, s := range several() {
		room := []byte(s + s)
		was := bytes.Clone(room)
		// Cut at its end the text has no room of its own, else the room is the text once more.
		for _, text := range [][]byte{room[:len(s)], room[:len(s):len(s)], room[len(s):]} {
			fill(Of(text))
			if !bytes.Equal(room, was) {
				t.Errorf("%q has become %q with its Of", was, room)
			}
			of := Of(text)
			whole := bytes.Clone(of[:cap(of)])
			fill(text)
			if !bytes.Equal(of[:cap(of)], whole) {
				t.Errorf("%q, and the room behind it, has become %q with its text", whole, of[:cap(of)])
			}
			copy(room, was)
		}
	}
}

// P6.2, W6, W7: no answer shares memory with one before it, and a later call turns none.
func TestAnswersStay(t *testing.T) {
	for _, s := range several() {
		b := []byte(s)
		one, other := Of(b), Of(b)
		kept := string(other)
		fill(one)
		Of([]byte("banana"))
		At([]byte("baba"))
		if string(other) != kept {
			t.Errorf("Of(%q) has become %q", s, other)
		}
		checkText(t, s)
	}
}

func FuzzLeast(f *testing.F) {
	f.Add([]byte("bab"), 1)
	f.Add([]byte("aabaaab"), 3)
	f.Add([]byte{}, 0)
	f.Add([]byte{255, 0}, 5)
	f.Fuzz(func(t *testing.T, b []byte, times int) {
		if len(b) > 200 {
			b = b[:200]
		}
		checkText(t, string(b))
		// A text again and again, and a beginning of it: the fuzzer seldom makes one.
		b = bytes.Repeat(b, 1+times&7)
		checkText(t, string(b))
		checkText(t, string(b[:len(b)-len(b)/5]))
	})
}
