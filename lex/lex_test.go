package lex

import (
	"bytes"
	"math"
	"slices"
	"strings"
	"testing"
)

// several are texts of none, one and many bytes, some of one byte or of one word again and again.
func several() []string {
	every := make([]byte, 256)
	for i := range every {
		every[i] = byte(i)
	}
	back := slices.Clone(every)
	slices.Reverse(back)
	texts := []string{
		"", "a", "\x00", "\xff", "ab", "ba", "\x00\xff", "\xff\x00", "\x7f\x80", "\x80\x7f",
		"banana", "mississippi", "abracadabra", "bbbbbbba", "abbbbbbb", "aaaaaaab", "baaaaaaa",
		"\xff\x00\xff", "\x00\xff\x00", "\x00\x00\x01\x00\x00", "\xff\xff\xfe\xff\xff",
		string(every[100:160]), string(back[100:160]),
	}
	for _, word := range []string{"a", "\x00", "\xff", "ab", "ba", "aab", "aba", "\x00\xff", "abcabd"} {
		for times := 2; times <= 5; times++ {
			// A last word that is cut short spoils the rotations that were the same.
			texts = append(texts, strings.Repeat(word, times), strings.Repeat(word, times)+word[:len(word)/2])
		}
	}
	return texts
}

// all are all texts of at most most bytes, of these letters.
func all(letters string, most int) []string {
	texts := []string{""}
	for from := 0; most > 0; most-- {
		end := len(texts)
		for _, text := range texts[from:end] {
			for k := range len(letters) {
				texts = append(texts, text+letters[k:k+1])
			}
		}
		from = end
	}
	return texts
}

// less is -1, 0, 1 by the chapter's words alone: byte by byte, a beginning is less.
func less(a, b string) int {
	for k := 0; k < len(a) || k < len(b); k++ {
		switch {
		case k == len(a):
			return -1
		case k == len(b):
			return 1
		case a[k] < b[k]:
			return -1
		case a[k] > b[k]:
			return 1
		}
	}
	return 0
}

// turned is the rotation i, written out.
func turned(s string, i int) string { return s[i:] + s[:i] }

// alike is how many bytes two texts begin with alike: the longest beginning of a that is one of b.
func alike(a, b string) int {
	n := len(a)
	for !strings.HasPrefix(b, a[:n]) {
		n--
	}
	return n
}

// none are places that no text of n bytes has an ending at.
func none(n int) []int {
	return []int{
		-1, -2, -n - 1, n + 1, n + 2, 2*n + 1,
		math.MinInt, math.MinInt + 1, math.MinInt32, math.MaxInt32, math.MaxInt - 1, math.MaxInt,
	}
}

// checkPair holds the three answers of one pair against the words.
func checkPair(t *testing.T, s string, i, j int) {
	t.Helper()
	b := []byte(s)
	if got, want := Endings(b, i, j), less(s[i:], s[j:]); got != want {
		t.Errorf("Endings(%q, %d, %d) is %d, not %d", s, i, j, got, want)
	}
	if got, want := Common(b, i, j), alike(s[i:], s[j:]); got != want {
		t.Errorf("Common(%q, %d, %d) is %d, not %d", s, i, j, got, want)
	}
	want := 0
	if i < len(s) && j < len(s) {
		want = less(turned(s, i), turned(s, j))
	}
	if got := Turns(b, i, j); got != want {
		t.Errorf("Turns(%q, %d, %d) is %d, not %d", s, i, j, got, want)
	}
}

// checkNone holds that nothing is told of a pair of which one is none.
func checkNone(t *testing.T, s string, i, j int) {
	t.Helper()
	b := []byte(s)
	if e, r, c := Endings(b, i, j), Turns(b, i, j), Common(b, i, j); e != 0 || r != 0 || c != 0 {
		t.Errorf("of %q at %d and %d, Endings is %d, Turns %d, Common %d", s, i, j, e, r, c)
	}
}

// P4.1: each pair of places, either way round.
func TestEachPairIsWhatTheWordsSay(t *testing.T) {
	texts := slices.Concat(several(), all("ab", 6), all("\x00\x80\xff", 4))
	for _, s := range texts {
		for i := range len(s) + 1 {
			for j := range len(s) + 1 {
				checkPair(t, s, i, j)
			}
		}
	}
}

// P4.1: 0, if i or j is none.
func TestWhatIsNoneIsNought(t *testing.T) {
	for _, s := range several() {
		for _, out := range none(len(s)) {
			for in := range len(s) + 1 {
				checkNone(t, s, in, out)
				checkNone(t, s, out, in)
			}
			for _, other := range none(len(s)) {
				checkNone(t, s, out, other)
			}
		}
	}
}

// P4.1: rotation at the length is none, though the ending there is one.
func TestNoRotationAtTheLength(t *testing.T) {
	for _, s := range several() {
		b, n := []byte(s), len(s)
		for i := range n + 1 {
			if Turns(b, i, n) != 0 || Turns(b, n, i) != 0 {
				t.Errorf("of %q, Turns with %d and the length is %d, %d", s, i, Turns(b, i, n), Turns(b, n, i))
			}
		}
	}
}

// P4.1: the empty ending is the beginning of each other one.
func TestTheEmptyEndingIsLess(t *testing.T) {
	for _, s := range several() {
		b, n := []byte(s), len(s)
		for i := range n {
			if Endings(b, n, i) != -1 || Endings(b, i, n) != 1 || Common(b, n, i) != 0 || Common(b, i, n) != 0 {
				t.Errorf("of %q the empty ending is not less than ending %d", s, i)
			}
		}
		if Endings(b, n, n) != 0 || Common(b, n, n) != 0 {
			t.Errorf("of %q the empty ending is not the same as itself", s)
		}
	}
}

// P4.1: an ending that is the beginning of the other one is less, and all of it is alike.
func TestABeginningIsLess(t *testing.T) {
	for _, c := range []struct {
		s           string
		whole, part int
		common      int
	}{
		{"banana", 1, 3, 3}, {"banana", 1, 5, 1}, {"banana", 3, 5, 1}, {"banana", 2, 4, 2},
		{"aaaa", 0, 1, 3}, {"aaaa", 0, 3, 1}, {"\x00\x00\x00", 0, 1, 2}, {"\xff\xff\xff", 0, 2, 1},
		{"abab", 0, 2, 2}, {"abcabcab", 0, 6, 2}, {"abcabcab", 3, 6, 2}, {"abcabcab", 0, 3, 5},
	} {
		b := []byte(c.s)
		if Endings(b, c.part, c.whole) != -1 || Endings(b, c.whole, c.part) != 1 {
			t.Errorf("of %q ending %d is not less than ending %d", c.s, c.part, c.whole)
		}
		if Common(b, c.part, c.whole) != c.common || Common(b, c.whole, c.part) != c.common {
			t.Errorf("of %q at %d and %d not %d bytes are alike", c.s, c.part, c.whole, c.common)
		}
	}
}

// P4.1: bytes are compared as numbers of 0 to 255.
func TestBytesAreWithoutASign(t *testing.T) {
	for a := range 256 {
		for b := range 256 {
			s := []byte{byte(a), byte(b)}
			want := less(string(s[:1]), string(s[1:]))
			if got := Turns(s, 0, 1); got != want {
				t.Errorf("Turns(%v, 0, 1) is %d", s, got)
			}
			if a == b {
				want = 1 // two bytes begin with the one
			}
			if got := Endings(s, 0, 1); got != want {
				t.Errorf("Endings(%v, 0, 1) is %d", s, got)
			}
		}
	}
}

// P4.1: rotations of a word again and again are the same at its beginnings, and just there.
func TestRotationsThatAreTheSame(t *testing.T) {
	for _, word := range []string{"a", "\x00", "\xff", "ab", "aab", "abcabd"} {
		for times := 1; times <= 4; times++ {
			b := bytes.Repeat([]byte(word), times)
			for i := range b {
				for j := range b {
					same := (i-j)%len(word) == 0
					if got := Turns(b, i, j); (got == 0) != same {
						t.Errorf("Turns(%q, %d, %d) is %d", b, i, j, got)
					}
				}
			}
		}
	}
}

// P4.1: a rotation goes on behind the last byte, with the bytes ahead of it.
func TestRotationsGoOnBehindTheEnd(t *testing.T) {
	for _, c := range []struct {
		s             string
		i, j          int
		endings, turn int
	}{
		{"aab", 0, 1, -1, -1},       // no need to go on
		{"aba", 2, 0, -1, -1},       // aab, aba
		{"baa", 1, 2, 1, -1},        // aab, aba: the other way than the endings
		{"abaab", 3, 0, -1, 1},      // ababa, abaab
		{"cab\x00cab", 4, 0, -1, 1}, // cabcab0, cab0cab
		{"bab", 2, 0, -1, 1},        // bba, bab
		{"abab", 2, 0, -1, 0},
	} {
		b := []byte(c.s)
		if Endings(b, c.i, c.j) != c.endings || Endings(b, c.j, c.i) != -c.endings {
			t.Errorf("Endings(%q, %d, %d) is %d, not %d", c.s, c.i, c.j, Endings(b, c.i, c.j), c.endings)
		}
		if Turns(b, c.i, c.j) != c.turn || Turns(b, c.j, c.i) != -c.turn {
			t.Errorf("Turns(%q, %d, %d) is %d, not %d", c.s, c.i, c.j, Turns(b, c.i, c.j), c.turn)
		}
	}
}

// P4.1: either way round, and of three in order, through the middle one.
func TestTheOrderIsOne(t *testing.T) {
	for _, s := range slices.Concat(several(), all("ab", 5)) {
		if len(s) > 20 {
			continue
		}
		b := []byte(s)
		for i := range len(s) + 1 {
			for j := range len(s) + 1 {
				if Endings(b, i, j) != -Endings(b, j, i) || Turns(b, i, j) != -Turns(b, j, i) || Common(b, i, j) != Common(b, j, i) {
					t.Errorf("of %q, %d and %d are not told alike either way round", s, i, j)
				}
				for k := range len(s) + 1 {
					checkThrough(t, b, i, j, k)
				}
			}
		}
	}
}

// checkThrough holds that what is in order from i to j and from j to k is so from i to k.
func checkThrough(t *testing.T, b []byte, i, j, k int) {
	t.Helper()
	if Endings(b, i, j) <= 0 && Endings(b, j, k) <= 0 {
		if Endings(b, i, k) > 0 {
			t.Errorf("of %q the endings %d, %d, %d are in no order", b, i, j, k)
		}
		if got, want := Common(b, i, k), min(Common(b, i, j), Common(b, j, k)); got != want {
			t.Errorf("of %q, %d and %d have %d alike, through %d %d", b, i, k, got, j, want)
		}
	}
	there := i < len(b) && j < len(b) && k < len(b)
	if there && Turns(b, i, j) <= 0 && Turns(b, j, k) <= 0 && Turns(b, i, k) > 0 {
		t.Errorf("of %q the rotations %d, %d, %d are in no order", b, i, j, k)
	}
}

// P4.2: two endings are the same just if i is j.
func TestEndingsAreTheSameJustAtOnePlace(t *testing.T) {
	for _, s := range several() {
		b := []byte(s)
		for i := range len(s) + 1 {
			for j := range len(s) + 1 {
				if got := Endings(b, i, j); (got == 0) != (i == j) {
					t.Errorf("Endings(%q, %d, %d) is %d", s, i, j, got)
				}
			}
			if got := Common(b, i, i); got != len(s)-i {
				t.Errorf("Common(%q, %d, %d) is %d", s, i, i, got)
			}
			if got := Turns(b, i, i); got != 0 {
				t.Errorf("Turns(%q, %d, %d) is %d", s, i, i, got)
			}
		}
	}
}

// P4.1, P4.2: a long text, of one byte and of a word again and again.
func TestLongTexts(t *testing.T) {
	const n = 100000
	b := bytes.Repeat([]byte{255}, n)
	if Endings(b, 0, 1) != 1 || Common(b, 0, 1) != n-1 || Turns(b, 0, n-1) != 0 {
		t.Error("of one byte:", Endings(b, 0, 1), Common(b, 0, 1), Turns(b, 0, n-1))
	}
	b[n-1] = 0
	if Endings(b, 0, 1) != 1 || Common(b, 0, 1) != n-2 || Turns(b, 0, 1) != 1 || Turns(b, n-2, n-1) != 1 {
		t.Error("with another one last:", Endings(b, 0, 1), Common(b, 0, 1), Turns(b, 0, 1), Turns(b, n-2, n-1))
	}
	b = bytes.Repeat([]byte("ab"), n/2)
	if Endings(b, 2, 0) != -1 || Common(b, 2, 0) != n-2 || Turns(b, 2, 0) != 0 || Turns(b, n-1, 0) != 1 {
		t.Error("of a word:", Endings(b, 2, 0), Common(b, 2, 0), Turns(b, 2, 0), Turns(b, n-1, 0))
	}
}

// P4.1: one word twice, of any number of bytes up to some thousand: as many are alike, be it that another byte comes then or
// that the text is over; or fewer, if one byte of the second word is another one.
func TestManyAlike(t *testing.T) {
	for n := range 2100 {
		word := strings.Repeat("abaab", n/5+1)[:n]
		checkAlike(t, word+"x"+word+"y", n+1, n)
		checkAlike(t, word+"x"+word, n+1, n)
		checkAlike(t, word+"x"+word+"xb", n+1, n+1)
		checkAlike(t, strings.Repeat("a", n+3), 3, n)
		other := []byte(strings.Repeat("b", 4200))
		other[2100+n] = 'c'
		checkAlike(t, string(other), 2100, n)
	}
}

// checkAlike holds Common of the whole text and the ending i, either way round, against a number.
func checkAlike(t *testing.T, s string, i, want int) {
	t.Helper()
	b := []byte(s)
	if one, other := Common(b, 0, i), Common(b, i, 0); one != want || other != want {
		t.Fatalf("of %d bytes at 0 and %d, %d or %d are told to be alike, not %d", len(s), i, one, other, want)
	}
}

// The chapter's example, and all endings and rotations of it in order.
func TestBanana(t *testing.T) {
	b := []byte("banana")
	if got := Common(b, 1, 3); got != 3 {
		t.Errorf("Common(1, 3) is %d", got)
	}
	checkRow(t, "ending", b, Endings, []int{6, 5, 3, 1, 0, 4, 2})
	checkRow(t, "rotation", b, Turns, []int{5, 3, 1, 0, 4, 2})
}

// checkRow holds that each place of a row is less than all behind it.
func checkRow(t *testing.T, what string, b []byte, compare func([]byte, int, int) int, row []int) {
	t.Helper()
	for k, i := range row {
		for _, j := range row[k+1:] {
			if compare(b, i, j) != -1 || compare(b, j, i) != 1 {
				t.Errorf("%s %d is not less than %d", what, i, j)
			}
		}
	}
}

// W5: a nil text is an empty one.
func TestNilIsEmpty(t *testing.T) {
	for _, i := range append(none(0), 0) {
		for _, j := range append(none(0), 0) {
			if Endings(nil, i, j) != 0 || Turns(nil, i, j) != 0 || Common(nil, i, j) != 0 {
				t.Errorf("of nil at %d and %d, Endings is %d, Turns %d, Common %d",
					i, j, Endings(nil, i, j), Turns(nil, i, j), Common(nil, i, j))
			}
		}
	}
}

// W6: neither the text nor the room behind it is changed, or told of.
func TestWhatIsHandedInStays(t *testing.T) {
	for _, s := range several() {
		room := []byte("abba" + s + "abba")
		was := bytes.Clone(room)
		text := room[4 : 4+len(s)]
		for i := -1; i <= len(s)+2; i++ {
			for j := -1; j <= len(s)+2; j++ {
				if Endings(text, i, j) != Endings([]byte(s), i, j) || Turns(text, i, j) != Turns([]byte(s), i, j) || Common(text, i, j) != Common([]byte(s), i, j) {
					t.Errorf("of %q at %d and %d the bytes around it are told", s, i, j)
				}
			}
		}
		if !bytes.Equal(room, was) {
			t.Errorf("%q has become %q", was, room)
		}
	}
}

func FuzzLex(f *testing.F) {
	f.Add([]byte("banana"), 1, 3)
	f.Add([]byte("abab"), 0, 2)
	f.Add([]byte{}, 0, 0)
	f.Add([]byte{0, 255}, math.MinInt, math.MaxInt)
	f.Fuzz(func(t *testing.T, b []byte, i, j int) {
		n := len(b)
		if i < 0 || j < 0 || i > n || j > n {
			checkNone(t, string(b), i, j)
			// The numbers are seldom near the text's: take them by its length.
			i, j = (i%(n+1)+n+1)%(n+1), (j%(n+1)+n+1)%(n+1)
		}
		checkPair(t, string(b), i, j)
	})
}
