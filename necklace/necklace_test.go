package necklace

import (
	"bytes"
	"slices"
	"strings"
	"testing"

	"whorl/least"
	"whorl/lyndon"
	"whorl/period"
)

// several are words of none, one and many bytes: rising, falling, of one byte or of one word again and again.
func several() []string {
	rising := make([]byte, 256)
	for i := range rising {
		rising[i] = byte(i)
	}
	falling := slices.Clone(rising)
	slices.Reverse(falling)
	words := []string{
		"", "a", "b", "\x00", "\xff", "ab", "ba", "\x00\xff", "\xff\x00", "\x7f\x80", "\x80\x7f",
		"banana", "mississippi", "abracadabra", "bbbbbbba", "abbbbbbb", "aaaaaaab", "baaaaaaa",
		"aabaaab", "aabaabaaab", "abaababaabaab", "bcaabcaa", "abcabd", "cabbage",
		"\xff\x00\xff", "\x00\xff\x00", "\x00\x00\x01\x00\x00", "\xff\xff\xfe\xff\xff", "\xff\x00\x01\x00",
		string(rising), string(falling), string(rising) + string(rising), string(falling) + string(rising),
	}
	for _, word := range []string{"a", "\x00", "\xff", "ab", "ba", "aab", "aba", "\x00\xff", "abcabd"} {
		for times := 2; times <= 4; times++ {
			words = append(words, strings.Repeat(word, times))
			for cut := 1; cut < len(word); cut++ {
				words = append(words, strings.Repeat(word, times)+word[:cut])
			}
		}
	}
	return words
}

// all are all words of at most most bytes, of these letters.
func all(letters string, most int) []string {
	words := []string{""}
	for from := 0; most > 0; most-- {
		end := len(words)
		for _, word := range words[from:end] {
			for k := range len(letters) {
				words = append(words, word+letters[k:k+1])
			}
		}
		from = end
	}
	return words
}

// rows hands over all rows of so many words.
func rows(words []string, number int, each func([]string)) {
	row := make([]string, number)
	var lay func(int)
	lay = func(at int) {
		if at == number {
			each(row)
			return
		}
		for _, word := range words {
			row[at] = word
			lay(at + 1)
		}
	}
	lay(0)
}

// upTo are all rows of at most so many words.
func upTo(words []string, most int) [][]string {
	var list [][]string
	for number := range most + 1 {
		rows(words, number, func(row []string) { list = append(list, slices.Clone(row)) })
	}
	return list
}

// byteLists are words as bytes.
func byteLists(words []string) [][]byte {
	var lists [][]byte
	for _, word := range words {
		lists = append(lists, []byte(word))
	}
	return lists
}

// texts are words as texts.
func texts(words [][]byte) []string {
	var list []string
	for _, word := range words {
		list = append(list, string(word))
	}
	return list
}

// turned is the rotation i, written out.
func turned(s string, i int) string { return s[i:] + s[:i] }

// less tells whether u is less than v, byte by byte; the beginning of another one is less.
func less(u, v string) bool {
	for i := 0; i < len(u) && i < len(v); i++ {
		if u[i] != v[i] {
			return u[i] < v[i]
		}
	}
	return len(u) < len(v)
}

// told is what a ring is to answer.
type told struct {
	turn, root string
	times      int
}

// tell tells a word by the chapter's words: of all its rotations the least, and the shortest text that this is
// again and again.
func tell(word string) told {
	turn := word
	for i := range len(word) {
		if next := turned(word, i); less(next, turn) {
			turn = next
		}
	}
	n := 1
	for strings.Repeat(turn[:n], len(turn)/n) != turn {
		n++
	}
	return told{turn, turn[:n], len(turn) / n}
}

// ahead tells whether x comes ahead of y: by the root, then by how many times.
func ahead(x, y told) bool {
	if x.root != y.root {
		return less(x.root, y.root)
	}
	return x.times < y.times
}

// inWords is what a row of words is to answer, by the chapter's words alone.
func inWords(words []string) (turns, roots []string, times []int) {
	var row []told
	for _, word := range words {
		if word == "" {
			continue
		}
		// Each is laid where it belongs among those that are there: no order is taken for granted.
		x, at := tell(word), 0
		for at < len(row) && !ahead(x, row[at]) {
			at++
		}
		row = slices.Insert(row, at, x)
	}
	for _, x := range row {
		turns, roots, times = append(turns, x.turn), append(roots, x.root), append(times, x.times)
	}
	return turns, roots, times
}

// checkRow holds the answers of one row of words against the words.
func checkRow(t *testing.T, words ...string) {
	t.Helper()
	turns, roots, times := inWords(words)
	if got := texts(Canon(byteLists(words))); !slices.Equal(got, turns) {
		t.Errorf("Canon(%q) is %q, not %q", words, got, turns)
	}
	gotRoots, gotTimes := Roots(byteLists(words))
	if !slices.Equal(texts(gotRoots), roots) || !slices.Equal(gotTimes, times) {
		t.Errorf("Roots(%q) is %q, %v, not %q, %v", words, gotRoots, gotTimes, roots, times)
	}
	if !Same(byteLists(words), byteLists(words)) || !Same(byteLists(words), byteLists(turns)) {
		t.Errorf("%q is not the Same as itself, or as %q", words, turns)
	}
}

// checkSame holds the answer of two rows, either way round, against what is so.
func checkSame(t *testing.T, a, b []string, want bool) {
	t.Helper()
	if got := Same(byteLists(a), byteLists(b)); got != want {
		t.Errorf("Same(%q, %q) is %t", a, b, got)
	}
	if got := Same(byteLists(b), byteLists(a)); got != want {
		t.Errorf("Same(%q, %q) is %t", b, a, got)
	}
}

// P9.1: Canon and Roots of each row of none to four short words, empty ones among them.
func TestEachRowIsWhatTheWordsSay(t *testing.T) {
	for _, c := range []struct {
		words  []string
		number int
	}{
		{nil, 0}, {all("ab", 10), 1}, {all("abc", 7), 1}, {all("\x00\x80\xff", 6), 1}, {several(), 1},
		{all("ab", 6), 2}, {all("abc", 4), 2}, {all("\x00\x80\xff", 3), 2}, {several(), 2},
		{all("ab", 4), 3}, {all("\x00\x7f\xff", 2), 3}, {all("ab", 2), 4}, {all("\x00\xff", 2), 4},
		{[]string{"", "ab", "ba", "aab", "aba", "baa", "abab", "ababab"}, 4},
	} {
		rows(c.words, c.number, func(row []string) { checkRow(t, row...) })
	}
}

// P9.1: answers that were worked out by hand.
func TestSomeRows(t *testing.T) {
	for _, c := range []struct {
		words, canon, roots []string
		times               []int
	}{
		{[]string{"a"}, []string{"a"}, []string{"a"}, []int{1}},
		{[]string{"ba"}, []string{"ab"}, []string{"ab"}, []int{1}},
		{[]string{"banana"}, []string{"abanan"}, []string{"abanan"}, []int{1}},
		{[]string{"\xff", "\x00"}, []string{"\x00", "\xff"}, []string{"\x00", "\xff"}, []int{1, 1}},
		{[]string{"\xff\x00", "\x00"}, []string{"\x00", "\x00\xff"}, []string{"\x00", "\x00\xff"}, []int{1, 1}},
		{[]string{"\x80\x7f", "\x7f"}, []string{"\x7f", "\x7f\x80"}, []string{"\x7f", "\x7f\x80"}, []int{1, 1}},
		{[]string{"bb", "b", "bbb"}, []string{"b", "bb", "bbb"}, []string{"b", "b", "b"}, []int{1, 2, 3}},
		{[]string{"ba", "b"}, []string{"ab", "b"}, []string{"ab", "b"}, []int{1, 1}},
		{[]string{"bba", "baba"}, []string{"abab", "abb"}, []string{"ab", "abb"}, []int{2, 1}},
		{[]string{"aaa", "aba", "a", "aa"}, []string{"a", "aa", "aaa", "aab"}, []string{"a", "a", "a", "aab"}, []int{1, 2, 3, 1}},
		{[]string{"ab", "", "ab", "ba", ""}, []string{"ab", "ab", "ab"}, []string{"ab", "ab", "ab"}, []int{1, 1, 1}},
		{[]string{"cba", "bca"}, []string{"abc", "acb"}, []string{"abc", "acb"}, []int{1, 1}},
		{[]string{"baabaa", "aab"}, []string{"aab", "aabaab"}, []string{"aab", "aab"}, []int{1, 2}},
		{[]string{"abaab", "ab"}, []string{"aabab", "ab"}, []string{"aabab", "ab"}, []int{1, 1}},
	} {
		canon := Canon(byteLists(c.words))
		roots, times := Roots(byteLists(c.words))
		if !slices.Equal(texts(canon), c.canon) || !slices.Equal(texts(roots), c.roots) || !slices.Equal(times, c.times) {
			t.Errorf("of %q, Canon is %q, Roots %q, %v", c.words, canon, roots, times)
		}
	}
}

// The chapter's example.
func TestTheExample(t *testing.T) {
	words := byteLists([]string{"ba", "abab", "a"})
	if got := texts(Canon(words)); !slices.Equal(got, []string{"a", "ab", "abab"}) {
		t.Errorf("Canon is %q", got)
	}
	roots, times := Roots(words)
	if !slices.Equal(texts(roots), []string{"a", "ab", "ab"}) || !slices.Equal(times, []int{1, 1, 2}) {
		t.Errorf("Roots is %q, %v", roots, times)
	}
}

// P9.1, W5: of no words there is nothing, nor of empty ones, be they nil or not; and all these are the same.
func TestNoRings(t *testing.T) {
	text := []byte("abab")
	nothing := [][][]byte{nil, {}, {nil}, {{}}, {nil, {}, nil}, {text[:0], text[4:], text[2:2:2]}, slices.Repeat([][]byte{nil}, 3000)}
	for _, a := range nothing {
		roots, times := Roots(a)
		if canon := Canon(a); len(canon) != 0 || len(roots) != 0 || len(times) != 0 {
			t.Errorf("of %q, Canon is %q, Roots %q, %v", a, canon, roots, times)
		}
		for _, b := range nothing {
			if !Same(a, b) {
				t.Errorf("Same(%q, %q) is false", a, b)
			}
		}
		one := [][]byte{{0}}
		if Same(a, one) || Same(one, a) {
			t.Errorf("%q is the Same as a word of one byte", a)
		}
	}
}

// P9.1, W5: an empty word among others, be it nil or not, is left out, wherever it stands and how often.
func TestEmptyWordsAmongOthers(t *testing.T) {
	for _, words := range [][]string{{"a"}, {"\x00"}, {"ba", "abab", "a"}, {"\xff\x00", "\xff", "\x00\x00"}, {"x", "x"}} {
		turns, roots, times := inWords(words)
		for at := range len(words) + 1 {
			for _, empty := range [][][]byte{{nil}, {{}}, {nil, {}, nil}} {
				row := slices.Insert(byteLists(words), at, empty...)
				gotRoots, gotTimes := Roots(row)
				if got := Canon(row); !slices.Equal(texts(got), turns) || !slices.Equal(texts(gotRoots), roots) || !slices.Equal(gotTimes, times) {
					t.Errorf("of %q, Canon is %q, Roots %q, %v", row, got, gotRoots, gotTimes)
				}
				if !Same(row, byteLists(words)) || !Same(byteLists(words), row) {
					t.Errorf("%q is not the Same as %q", row, words)
				}
			}
		}
	}
}

// P9.1: each word alone is its own least rotation, and the root of that, so many times.
func TestOneWord(t *testing.T) {
	for _, word := range slices.Concat(several(), all("ab", 9), all("\x00\x80\xff", 5)) {
		if word == "" {
			continue
		}
		b := [][]byte{[]byte(word)}
		turn := least.Of(b[0])
		root, n := period.Root(turn)
		roots, times := Roots(b)
		if canon := Canon(b); len(canon) != 1 || !bytes.Equal(canon[0], turn) {
			t.Errorf("Canon(%q) is %q, the least rotation %q", word, canon, turn)
		}
		if len(roots) != 1 || !bytes.Equal(roots[0], root) || !slices.Equal(times, []int{n}) {
			t.Errorf("Roots(%q) is %q, %v, the Root %q, %d", word, roots, times, root, n)
		}
	}
}

// P9.1: each one byte is a ring, and in the order of bytes without a sign.
func TestEachByte(t *testing.T) {
	var words [][]byte
	for k := range 256 {
		words = append(words, []byte{byte(255 - k)})
	}
	canon := Canon(words)
	roots, times := Roots(words)
	if len(canon) != 256 || len(roots) != 256 || len(times) != 256 {
		t.Fatalf("of 256 bytes, Canon is %d words, Roots %d, %d", len(canon), len(roots), len(times))
	}
	for k := range 256 {
		if want := []byte{byte(k)}; !bytes.Equal(canon[k], want) || !bytes.Equal(roots[k], want) || times[k] != 1 {
			t.Errorf("ring %d is %v, its root %v, %d", k, canon[k], roots[k], times[k])
		}
	}
}

// P9.1: the same word more than once stays as many times.
func TestTheSameMoreThanOnce(t *testing.T) {
	for _, word := range []string{"a", "\x00", "\xff", "ba", "abab", "banana", "\xff\x00"} {
		for number := 1; number <= 40; number++ {
			row := slices.Repeat([]string{word}, number)
			checkRow(t, row...)
			checkSame(t, row, append(row, word), false)
			checkRow(t, append(row, "b", "", "ab")...)
		}
	}
}

// P9.1: a word again and again has one root, and comes by how many times.
func TestAWordAgainAndAgain(t *testing.T) {
	for _, word := range []string{"a", "\x00", "\xff", "ab", "\x00\xff", "aab", "abb", "abcabd"} {
		var row, want []string
		for times := 1; times <= 30; times++ {
			whole := strings.Repeat(word, times)
			want = append(want, whole)
			// The greatest comes first, and each is turned by another number of bytes.
			row = slices.Insert(row, 0, turned(whole, times%len(whole)))
		}
		if got := texts(Canon(byteLists(row))); !slices.Equal(got, want) {
			t.Errorf("Canon(%q) is %q", row, got)
		}
		roots, times := Roots(byteLists(row))
		if len(roots) != 30 || len(times) != 30 {
			t.Fatalf("Roots(%q) is %q, %v", row, roots, times)
		}
		for i := range roots {
			if string(roots[i]) != word || times[i] != i+1 {
				t.Errorf("Roots(%q) has %q, %d at %d", row, roots[i], times[i], i)
			}
		}
	}
}

// P9.1: a root that is the beginning of another one is less, however often it is there.
func TestARootThatIsTheBeginning(t *testing.T) {
	for _, c := range [][2]string{
		{"a", "ab"}, {"a", "aab"}, {"ab", "abb"}, {"ab", "abac"}, {"aab", "aabab"}, {"aab", "aabb"}, {"abc", "abcb"},
		{"\x00", "\x00\xff"}, {"\x00", "\x00\x00\x01"}, {"\xfe", "\xfe\xff"}, {"\x00\xff", "\x00\xff\xff"},
	} {
		for few := 1; few <= 5; few++ {
			for many := 1; many <= 5; many++ {
				short, long := strings.Repeat(c[0], many), strings.Repeat(c[1], few)
				row := byteLists([]string{turned(long, len(long)/2), turned(short, len(short)/2)})
				if got := Canon(row); !slices.Equal(texts(got), []string{short, long}) {
					t.Errorf("Canon(%q) is %q", row, got)
				}
				roots, times := Roots(row)
				if !slices.Equal(texts(roots), c[:]) || !slices.Equal(times, []int{many, few}) {
					t.Errorf("Roots(%q) is %q, %v", row, roots, times)
				}
			}
		}
	}
}

// P9.1: Roots tells Canon, place by place; each root is less than all its rotations, and in order.
func TestRootsAreThoseOfCanon(t *testing.T) {
	for _, row := range append(upTo(all("ab", 4), 2), several(), all("abc", 5), all("\x00\x80\xff", 4)) {
		canon := Canon(byteLists(row))
		roots, times := Roots(byteLists(row))
		if len(roots) != len(canon) || len(times) != len(canon) {
			t.Errorf("of %q, Canon is %d words, Roots %d, %d", row, len(canon), len(roots), len(times))
			continue
		}
		for i, word := range canon {
			if !bytes.Equal(bytes.Repeat(roots[i], times[i]), word) || !lyndon.Is(roots[i]) {
				t.Errorf("of %q, Canon has %q at %d, Roots %q, %d", row, word, i, roots[i], times[i])
			}
			if i == 0 {
				continue
			}
			if c := bytes.Compare(roots[i-1], roots[i]); c > 0 || c == 0 && times[i-1] > times[i] {
				t.Errorf("of %q, %q, %d comes ahead of %q, %d", row, roots[i-1], times[i-1], roots[i], times[i])
			}
		}
	}
}

// rotations tells whether one word is a rotation of the other.
func rotations(u, v string) bool {
	return len(u) == len(v) && strings.Contains(v+v, u)
}

// paired tells whether two rows are rotations of one another, word by word, empty ones left out: each word of a
// takes one of b, and none is left. It asks for no order and for no least rotation.
func paired(a, b []string) bool {
	rest := slices.Clone(b)
	for _, word := range a {
		if word == "" {
			continue
		}
		at := slices.IndexFunc(rest, func(other string) bool { return rotations(word, other) })
		if at < 0 {
			return false
		}
		rest = slices.Delete(rest, at, at+1)
	}
	return !slices.ContainsFunc(rest, func(word string) bool { return word != "" })
}

// P9.1: Same of each two short rows, just if both have one Canon: that is, the same rings.
func TestSameJustByOneCanon(t *testing.T) {
	for _, list := range [][][]string{
		upTo(all("ab", 7), 1), upTo(all("abc", 5), 1), upTo(several(), 1), upTo(all("ab", 3), 2),
		upTo(all("\x00\x80\xff", 2), 2), upTo([]string{"", "a", "ab", "ba", "abab"}, 3),
	} {
		// Each row's words are told once: there are many pairs.
		canons := make([][]string, len(list))
		for i, row := range list {
			canons[i], _, _ = inWords(row)
		}
		for i, a := range list {
			for j, b := range list {
				got := Same(byteLists(a), byteLists(b))
				if got != slices.Equal(canons[i], canons[j]) || got != paired(a, b) {
					t.Errorf("Same(%q, %q) is %t", a, b, got)
				}
			}
		}
	}
}

// P9.1: rows that are the same, and such as are nearly so.
func TestSomePairs(t *testing.T) {
	for _, c := range []struct {
		a, b []string
		same bool
	}{
		{nil, nil, true},
		{nil, []string{"", ""}, true},
		{nil, []string{"a"}, false},
		{[]string{"ab"}, []string{"ba"}, true},
		{[]string{"ab"}, []string{"abab"}, false},
		{[]string{"ab", "ab"}, []string{"abab"}, false},
		{[]string{"ab", "abab"}, []string{"ab", "ab", "ab"}, false},
		{[]string{"ab", "abab"}, []string{"baba", "", "ba"}, true},
		{[]string{"a", "a", "b"}, []string{"a", "b", "b"}, false},
		{[]string{"a", "b"}, []string{"ab"}, false},
		{[]string{"ab", "c"}, []string{"a", "bc"}, false},
		{[]string{"abc"}, []string{"cab"}, true},
		{[]string{"abc"}, []string{"acb"}, false},
		{[]string{"a"}, []string{"a", "a"}, false},
		{[]string{"\x00"}, []string{""}, false},
		{[]string{"\x00"}, []string{"\x00\x00"}, false},
		{[]string{"\x00\xff"}, []string{"\xff\x00"}, true},
		{[]string{"\x00"}, []string{"\xff"}, false},
		{[]string{"banana", "nab"}, []string{"bna", "nanaba"}, true},
		{[]string{"banana", "nab"}, []string{"abn", "nabana"}, true},
		{[]string{"banana", "nab"}, []string{"ban", "nabana"}, false},
	} {
		checkSame(t, c.a, c.b, c.same)
	}
}

// sameAnswers tells whether two rows have one Canon and the same Roots, and are Same.
func sameAnswers(a, b [][]byte) bool {
	roots, times := Roots(a)
	otherRoots, otherTimes := Roots(b)
	return slices.EqualFunc(Canon(a), Canon(b), bytes.Equal) && slices.EqualFunc(roots, otherRoots, bytes.Equal) &&
		slices.Equal(times, otherTimes) && Same(a, b) && Same(b, a)
}

// orders hands over the words in each order there is.
func orders(words []string, each func([]string)) {
	var swap func(int)
	swap = func(at int) {
		if at == len(words) {
			each(words)
			return
		}
		for i := at; i < len(words); i++ {
			words[at], words[i] = words[i], words[at]
			swap(at + 1)
			words[at], words[i] = words[i], words[at]
		}
	}
	swap(0)
}

// P9.2: the order of words does not matter.
func TestOrderDoesNotMatter(t *testing.T) {
	for _, words := range [][]string{
		{"ba", "abab", "a"}, {"b", "", "ab", "ba", "abab"}, {"a", "aa", "aaa", "aab", "aba", "b"},
		{"\xff", "\x00", "\x00\xff", "\xff\x00\x00", "\x00\x00"}, {"x", "x", "xx", "x", ""},
		{"banana", "nabana", "ban", "nab", "ana"},
	} {
		was := byteLists(words)
		orders(slices.Clone(words), func(row []string) {
			if !sameAnswers(was, byteLists(row)) {
				t.Errorf("of %q and %q the answers differ", words, row)
			}
		})
	}
}

// P9.2: the rotation of words does not matter.
func TestRotationDoesNotMatter(t *testing.T) {
	for _, words := range [][]string{
		{"banana", "abab", "a"}, {"ab", "ba", "abab", "ababab"}, {"aab", "aabaab", "aabab"},
		{"\x00\xff", "\xff\xff\x00", "\x00\x00\xff"}, {"abcabd", "abdabc", "abc", ""},
	} {
		was := byteLists(words)
		for at, word := range words {
			for i := range len(word) {
				row := byteLists(words)
				row[at] = []byte(turned(word, i))
				if !sameAnswers(was, row) {
					t.Errorf("of %q and %q the answers differ", was, row)
				}
			}
		}
	}
	for _, word := range slices.Concat(several(), all("ab", 7), all("\x00\x80\xff", 4)) {
		for i := range len(word) {
			if a, b := [][]byte{[]byte(word)}, [][]byte{[]byte(turned(word, i))}; !sameAnswers(a, b) {
				t.Errorf("of %q and %q the answers differ", a, b)
			}
		}
	}
}

// P9.2: Canon of Canon is Canon, and that of the words.
func TestCanonOfCanon(t *testing.T) {
	for _, row := range append(upTo(all("ab", 3), 3), several(), all("abc", 5)) {
		words := byteLists(row)
		if !sameAnswers(words, Canon(words)) {
			t.Errorf("of %q and its Canon the answers differ", row)
		}
	}
}

// mixed hands over numbers of no plain rule, 0 to below - 1, the same ones each time.
func mixed() func(below int) int {
	state := uint64(9)
	return func(below int) int {
		state = state*6364136223846793005 + 1442695040888963407
		return int(state>>33) % below
	}
}

// P9.1, P9.2: many words, of few and of many letters, against the words; and mixed and turned.
func TestManyWords(t *testing.T) {
	number := mixed()
	for _, c := range []struct{ number, most, letters int }{
		{1000, 12, 256}, {1000, 12, 2}, {1000, 3, 2}, {1000, 2, 256}, {300, 40, 1}, {20, 300, 2},
	} {
		row, other := make([]string, c.number), make([]string, c.number)
		for i := range row {
			word := make([]byte, number(c.most+1))
			for j := range word {
				word[j] = byte(255 - number(c.letters))
			}
			row[i] = string(word)
			at := number(i + 1)
			other[i] = other[at]
			other[at] = turned(row[i], number(len(word)+1))
		}
		checkRow(t, row...)
		checkRow(t, other...)
		checkSame(t, row, other, true)
		checkSame(t, row, append(slices.Clone(other[1:]), other[0]+"\x00"), false)
	}
}

// P9.1: many bytes, of which much is alike.
func TestManyBytesAlike(t *testing.T) {
	const n = 100000
	last := bytes.Repeat([]byte{7}, n)
	last[n-1] = 8
	first := slices.Concat(last[n-1:], last[:n-1])
	one := bytes.Repeat([]byte{7}, n)
	for _, c := range []struct {
		what         string
		words, canon [][]byte
		root, times  int
	}{
		{"one byte", [][]byte{one}, [][]byte{one}, 1, n},
		{"a greater one", [][]byte{first}, [][]byte{last}, n, 1},
		{"both", [][]byte{first, one}, [][]byte{one, last}, 1, n},
		{"a word", [][]byte{bytes.Repeat([]byte("ba"), n)}, [][]byte{bytes.Repeat([]byte("ab"), n)}, 2, n},
		{"words of one byte", slices.Repeat([][]byte{{0}}, n), slices.Repeat([][]byte{{0}}, n), 1, 1},
		{"words of two", slices.Repeat([][]byte{[]byte("ba")}, n), slices.Repeat([][]byte{[]byte("ab")}, n), 2, 1},
		{"long ones again", slices.Repeat([][]byte{first}, 20), slices.Repeat([][]byte{last}, 20), n, 1},
	} {
		if got := Canon(c.words); !slices.EqualFunc(got, c.canon, bytes.Equal) {
			t.Errorf("%s: Canon is %d other words", c.what, len(got))
		}
		roots, times := Roots(c.words)
		if len(roots) != len(c.canon) || len(times) != len(c.canon) || len(roots[0]) != c.root || times[0] != c.times {
			t.Errorf("%s: Roots is %d roots, %d times", c.what, len(roots), len(times))
		}
		if !Same(c.words, c.canon) || Same(c.words, append(slices.Clone(c.canon), []byte{0})) {
			t.Errorf("%s: Same is not told", c.what)
		}
	}
}

// W6: neither words nor the room around them is changed, kept, or told of, though words share memory.
func TestWhatIsHandedInStays(t *testing.T) {
	for _, u := range []string{"", "a", "ba", "banana", "\xff\x00", "baba"} {
		for _, v := range []string{"", "b", "aba", "nabana", "\x00\xff"} {
			for _, around := range []string{"\x00\x00", "\xff\xff", "ab"} {
				room := []byte(around + u + v + around)
				was := bytes.Clone(room)
				from, mid, to := len(around), len(around)+len(u), len(around)+len(u)+len(v)
				whole := [][]byte{room[from:mid], room[mid:to], room[from:to], room[from:mid], room[:from], nil}
				kept := slices.Clone(whole)
				words := whole[:4]
				turns, roots, times := inWords([]string{u, v, u + v, u})
				gotRoots, gotTimes := Roots(words)
				if got := Canon(words); !slices.Equal(texts(got), turns) || !slices.Equal(texts(gotRoots), roots) || !slices.Equal(gotTimes, times) {
					t.Errorf("of %q and %q, amid %q, Canon is %q, Roots %q, %v", u, v, around, got, gotRoots, gotTimes)
				}
				if !Same(words, byteLists(turns)) || !Same(byteLists(turns), words) || !Same(words, words) {
					t.Errorf("of %q and %q, amid %q, Same is not told", u, v, around)
				}
				if !bytes.Equal(room, was) {
					t.Errorf("%q has become %q", was, room)
				}
				for i, word := range whole {
					if len(word) != len(kept[i]) || cap(word) != cap(kept[i]) || len(word) > 0 && &word[0] != &kept[i][0] {
						t.Errorf("of %q and %q word %d is another one", u, v, i)
					}
				}
			}
		}
	}
}

// turnBytes turns each byte of a list and of the room behind it.
func turnBytes(b []byte) {
	b = b[:cap(b)]
	for i := range b {
		b[i] ^= 0x55
	}
}

// answer is all lists of bytes that Canon and Roots of the words answer.
func answer(words [][]byte) [][]byte {
	roots, _ := Roots(words)
	return slices.Concat(Canon(words), roots)
}

// memoryRows are rows whose answers' memory is held against that of others: words that are their own least
// rotation, that are roots, and that are there more than once.
func memoryRows() [][]string {
	return [][]string{{"a"}, {"ab"}, {"ba"}, {"abab"}, {"a", "a", "a"}, {"ab", "", "ba", "ab"}, {"banana", "abanan", "aa"}, several()[:50]}
}

// P9.2, W6: what is answered shares no memory with the words, nor the room behind it, whichever of both is turned.
func TestAnswersAreNotTheWords(t *testing.T) {
	for _, row := range memoryRows() {
		for _, spare := range []int{0, 8} {
			words := byteLists(row)
			for i, word := range words {
				words[i] = append(make([]byte, 0, len(word)+spare), word...)
			}
			for _, list := range answer(words) {
				turnBytes(list)
			}
			if !slices.Equal(texts(words), row) {
				t.Errorf("%q has become %q with its answers", row, words)
			}
			lists := answer(words)
			var kept [][]byte
			for _, list := range lists {
				kept = append(kept, bytes.Clone(list[:cap(list)]))
			}
			for _, word := range words {
				turnBytes(word)
			}
			for i, list := range lists {
				if !bytes.Equal(list[:cap(list)], kept[i]) {
					t.Errorf("of %q, %q, and the room behind it, has become %q with the words", row, kept[i], list[:cap(list)])
				}
			}
		}
	}
}

// P9.2, W6: no two lists of one answer share memory, nor do those of two answers, nor the room behind them.
func TestAnswersShareNothing(t *testing.T) {
	for _, row := range memoryRows() {
		words := byteLists(row)
		lists := slices.Concat(answer(words), answer(words))
		if len(lists) > 256 {
			t.Fatalf("%d lists are more than there are marks", len(lists))
		}
		// Each list has a mark of its own: a later one over it would be seen.
		for i, list := range lists {
			for j := range list[:cap(list)] {
				list[:cap(list)][j] = byte(i)
			}
		}
		for i, list := range lists {
			for _, b := range list[:cap(list)] {
				if b != byte(i) {
					t.Fatalf("of %q list %d shares memory with another one", row, i)
				}
			}
		}
	}
}

// W6: the outer lists share no memory with the words' list, nor with another answer, spare room too.
func TestOuterListsAreNewMemory(t *testing.T) {
	for _, row := range memoryRows() {
		words := byteLists(row)
		was := slices.Clone(words)
		canon, other := Canon(words), Canon(words)
		roots, times := Roots(words)
		otherRoots, otherTimes := Roots(words)
		clear(canon[:cap(canon)])
		clear(roots[:cap(roots)])
		clear(times[:cap(times)])
		turns, wantRoots, wantTimes := inWords(row)
		if !slices.EqualFunc(words, was, bytes.Equal) {
			t.Errorf("%q has become %q with its answers", was, words)
		}
		if !slices.Equal(texts(other), turns) || !slices.Equal(texts(otherRoots), wantRoots) || !slices.Equal(otherTimes, wantTimes) {
			t.Errorf("of %q the answers have become %q, %q, %v", row, other, otherRoots, otherTimes)
		}
	}
}

// W7: what is answered stays, whatever is called later.
func TestAnswersStay(t *testing.T) {
	for _, row := range memoryRows() {
		words := byteLists(row)
		canon := Canon(words)
		roots, times := Roots(words)
		for _, later := range memoryRows() {
			Canon(byteLists(later))
			Roots(byteLists(later))
			Same(byteLists(later), words)
		}
		turns, wantRoots, wantTimes := inWords(row)
		if !slices.Equal(texts(canon), turns) || !slices.Equal(texts(roots), wantRoots) || !slices.Equal(times, wantTimes) {
			t.Errorf("of %q the answers have become %q, %q, %v", row, canon, roots, times)
		}
	}
}

func FuzzNecklace(f *testing.F) {
	f.Add([]byte("ba"), []byte("a"), 1)
	f.Add([]byte("abaab"), []byte("aabab"), 6)
	f.Add([]byte{}, []byte{0}, 0)
	f.Add([]byte{255, 0}, []byte{255}, 5)
	f.Fuzz(func(t *testing.T, u, v []byte, times int) {
		a, b := string(u[:min(len(u), 60)]), string(v[:min(len(v), 60)])
		// A word again and again, and rotations: the fuzzer seldom makes one.
		more := strings.Repeat(a, 1+times&3)
		half := turned(more, len(more)/2)
		row := []string{a, b, more, "", half, a + b, b + a, b}
		checkRow(t, row...)
		slices.Reverse(row)
		checkRow(t, row...)
		checkSame(t, []string{a, b}, []string{b, a}, true)
		checkSame(t, []string{more, b}, []string{b, half}, true)
		checkSame(t, []string{a, b}, []string{a + b}, paired([]string{a, b}, []string{a + b}))
		checkSame(t, []string{a}, []string{b}, paired([]string{a}, []string{b}))
	})
}
