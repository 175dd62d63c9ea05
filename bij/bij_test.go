package bij

import (
	"bytes"
	"cmp"
	"iter"
	"slices"
	"testing"
	"time"

	"whorl/api"
	"whorl/lyndon"
)

// bytesInAll is how many bytes there are.
const bytesInAll = 256

// rows hands over all rows of n numbers, each 0 to below - 1. Each is new, so that none is left out nor comes again where one
// that was handed in is changed.
func rows(n, below int) iter.Seq[[]int] {
	return func(yield func([]int) bool) {
		row := make([]int, n)
		for {
			if !yield(slices.Clone(row)) {
				return
			}
			at := n - 1
			for at >= 0 && row[at] == below-1 {
				row[at] = 0
				at--
			}
			if at < 0 {
				return
			}
			row[at]++
		}
	}
}

// texts hands over all texts of n of these letters, each of them new.
func texts(n int, letters string) iter.Seq[[]byte] {
	return func(yield func([]byte) bool) {
		for row := range rows(n, len(letters)) {
			text := make([]byte, n)
			for i, v := range row {
				text[i] = letters[v]
			}
			if !yield(text) {
				return
			}
		}
	}
}

// rising is the numbers from 0 on, n of them.
func rising(n int) []int {
	row := make([]int, n)
	for i := range row {
		row[i] = i
	}
	return row
}

// swapped is a text with what stands at two places changed for each other.
func swapped(s []byte, i, j int) []byte {
	other := slices.Clone(s)
	other[i], other[j] = other[j], other[i]
	return other
}

// with is a text with one byte changed.
func with(s []byte, at int, b byte) []byte {
	other := slices.Clone(s)
	other[at] = b
	return other
}

// draw hands over numbers of no plain rule, 0 to below - 1, the same ones each time.
func draw() func(below int) int {
	state := uint64(23)
	return func(below int) int {
		state = state*6364136223846793005 + 1442695040888963407
		return int(state>>33) % below
	}
}

// drawnOrder is an order of n numbers of no plain rule.
func drawnOrder(number func(below int) int, n int) []int {
	row := rising(n)
	for i := n - 1; i > 0; i-- {
		j := number(i + 1)
		row[i], row[j] = row[j], row[i]
	}
	return row
}

// drawnText is n bytes of no plain rule, each one of so many from a letter on.
func drawnText(number func(below int) int, n int, from byte, below int) []byte {
	var text []byte
	for range n {
		text = append(text, from+byte(number(below)))
	}
	return text
}

// repeated is n bytes of a word that comes again and again, the last time cut short or not.
func repeated(word string, n int) []byte {
	return bytes.Repeat([]byte(word), n/len(word)+1)[:n]
}

// joined is n bytes of the text whose beginnings are each the two shorter ones together: all of it comes again, but never
// for long by one period.
func joined(n int) []byte {
	one, two := []byte("a"), []byte("ab")
	for len(two) < n {
		one, two = two, slices.Concat(two, one)
	}
	return two[:n]
}

// isOne tells whether a text has a byte, and is less than each of its endings but itself and the empty one.
func isOne(s string) bool {
	for i := 1; i < len(s); i++ {
		if s >= s[i:] {
			return false
		}
	}
	return s != ""
}

// factorsBehind is a row of texts that s is one behind the other, each of which isOne, and none of which is less than the one
// behind it, nor the one ahead of them, if there is one, than the first. It answers false, if there is none.
func factorsBehind(ahead, s string) ([]string, bool) {
	if s == "" {
		return nil, true
	}
	for n := len(s); n > 0; n-- {
		if (ahead == "" || ahead >= s[:n]) && isOne(s[:n]) {
			if others, ok := factorsBehind(s[:n], s[n:]); ok {
				return slices.Insert(others, 0, s[:n]), true
			}
		}
	}
	return nil, false
}

// factorsInWords are a text's factors by their words.
func factorsInWords(s string) []string {
	factors, _ := factorsBehind("", s)
	return factors
}

// compare is how a word without end is to another one, byte by byte.
func compare(u, v string) int {
	for i := range len(u) + len(v) {
		if c := cmp.Compare(u[i%len(u)], v[i%len(v)]); c != 0 {
			return c
		}
	}
	return 0
}

// turned is the last bytes of all rotations of words, each laid out whole, as they stand when sorted as words without end.
func turned(words []string) string {
	var all []string
	for _, word := range words {
		for i := range len(word) {
			all = append(all, word[i:]+word[:i])
		}
	}
	slices.SortFunc(all, compare)
	var l []byte
	for _, rotation := range all {
		l = append(l, rotation[len(rotation)-1])
	}
	return string(l)
}

// turnInWords is Turn by its words.
func turnInWords(s string) string { return turned(factorsInWords(s)) }

// turn holds Turn against what it is to be.
func turn(t *testing.T, s, want string) {
	t.Helper()
	if l, e := Turn([]byte(s)); e != api.OK || string(l) != want {
		t.Fatalf("Turn(%q) is %q, %v, not %q", s, l, e, want)
	}
}

// back holds Back against what it is to be.
func back(t *testing.T, l, want string) {
	t.Helper()
	if s, e := Back([]byte(l)); e != api.OK || string(s) != want {
		t.Fatalf("Back(%q) is %q, %v, not %q", l, s, e, want)
	}
}

// backOf holds Back of any bytes against its words: what comes out is turned to them.
func backOf(t *testing.T, l string) {
	t.Helper()
	s, e := Back([]byte(l))
	if e != api.OK || turnInWords(string(s)) != l {
		t.Fatalf("Back(%q) is %q, %v, which is turned to %q", l, s, e, turnInWords(string(s)))
	}
	turn(t, string(s), l)
}

// all holds Turn and Back of a text against their words, and the text taken for a Turn, too.
func all(t *testing.T, s string) {
	t.Helper()
	l := turnInWords(s)
	turn(t, s, l)
	back(t, l, s)
	backOf(t, s)
	if !sameBytes([]byte(s), []byte(l)) {
		t.Fatalf("%q has other bytes than %q", l, s)
	}
}

// sameBytes tells whether each byte is there as often in both.
func sameBytes(one, two []byte) bool {
	var often [bytesInAll]int
	for _, b := range one {
		often[b]++
	}
	for _, b := range two {
		often[b]--
	}
	return often == [bytesInAll]int{}
}

// tooLong holds both calls against ErrLong, beside which there is nothing.
func tooLong(t *testing.T, s []byte) {
	t.Helper()
	if l, e := Turn(s); e != api.ErrLong || len(l) != 0 {
		t.Fatalf("Turn of %d bytes is %d bytes, %v, not ErrLong", len(s), len(l), e)
	}
	if x, e := Back(s); e != api.ErrLong || len(x) != 0 {
		t.Fatalf("Back of %d bytes is %d bytes, %v, not ErrLong", len(s), len(x), e)
	}
}

// P23.1, P23.2: the chapter's example.
func TestExample(t *testing.T) {
	turn(t, "banana", "annbaa")
	back(t, "annbaa", "banana")
}

// P23.1, P23.2: by hand.
func TestSomeTexts(t *testing.T) {
	for s, want := range map[string]string{
		"":            "",
		"a":           "a",
		"aa":          "aa",
		"ab":          "ba",
		"ba":          "ab",
		"abc":         "cab",
		"cba":         "abc",
		"bca":         "acb",
		"abab":        "bbaa",
		"baba":        "abab",
		"aab":         "baa",
		"aba":         "aba",
		"baa":         "aab",
		"abaab":       "babaa",
		"mississippi": "ipssmpissii",
		"abracadabra": "ardrcaaaabb",
		"\xff\x00":    "\x00\xff",
		"\x7f\x80":    "\x80\x7f",
	} {
		turn(t, s, want)
		back(t, want, s)
		if turnInWords(s) != want {
			t.Errorf("%q is turned to %q in words", s, turnInWords(s))
		}
	}
}

// P7.1 holds what the tests take for factors: by hand.
func TestFactorsInWords(t *testing.T) {
	for s, want := range map[string][]string{
		"":            nil,
		"banana":      {"b", "an", "an", "a"},
		"mississippi": {"m", "iss", "iss", "ipp", "i"},
		"aaa":         {"a", "a", "a"},
		"abaab":       {"ab", "aab"},
		"bca":         {"bc", "a"},
		"\xc3\xa9":    {"\xc3", "\xa9"},
	} {
		if got := factorsInWords(s); !slices.Equal(got, want) {
			t.Errorf("%q is %q", s, got)
		}
	}
}

// fewLetters are letters, and of how many of them the texts are short.
func fewLetters() map[string]int {
	return map[string]int{"a": 20, "ab": 12, "abc": 8, "abcd": 6, "\x00\xff": 10, "\x7f\x80": 10, "\x00\x01\x7f\x80\xff": 5, "abcdefg": 4}
}

// P23.1, P23.3: all short texts of a few letters: turned, and back.
func TestAllShortTexts(t *testing.T) {
	for letters, longest := range fewLetters() {
		for n := range longest + 1 {
			for s := range texts(n, letters) {
				all(t, string(s))
			}
		}
	}
}

// P23.2, P23.3: all short rows of a few letters are what just one text of that length is turned to.
func TestAllShortRows(t *testing.T) {
	for letters, longest := range fewLetters() {
		for n := range longest + 1 {
			textOf := map[string]string{}
			number := 0
			for s := range texts(n, letters) {
				textOf[turnInWords(string(s))] = string(s)
				number++
			}
			if len(textOf) != number {
				t.Fatalf("%d texts of %d of %q are turned to %d", number, n, letters, len(textOf))
			}
			for l := range texts(n, letters) {
				want, ok := textOf[string(l)]
				if !ok {
					t.Fatalf("no text is turned to %q", l)
				}
				back(t, string(l), want)
				turn(t, want, string(l))
			}
		}
	}
}

// P23.1, P23.2, W5: nothing, nil or empty, is turned to nothing, and back.
func TestNothing(t *testing.T) {
	for _, s := range [][]byte{nil, {}, make([]byte, 0, 4), []byte("ab")[:0], []byte("ab")[2:], make([]byte, api.MaxText+1)[:0]} {
		if l, e := Turn(s); e != api.OK || len(l) != 0 {
			t.Errorf("Turn of nothing is %q, %v", l, e)
		}
		if x, e := Back(s); e != api.OK || len(x) != 0 {
			t.Errorf("Back of nothing is %q, %v", x, e)
		}
	}
}

// P23.1, P23.2: one byte, and two, whichever they are: one is turned to itself, two are turned about.
func TestOneAndTwo(t *testing.T) {
	for one := range bytesInAll {
		s := string([]byte{byte(one)})
		turn(t, s, s)
		back(t, s, s)
		for other := range bytesInAll {
			turn(t, string([]byte{byte(one), byte(other)}), string([]byte{byte(other), byte(one)}))
			back(t, string([]byte{byte(one), byte(other)}), string([]byte{byte(other), byte(one)}))
			all(t, string([]byte{byte(one), byte(other)}))
		}
	}
}

// P23.1, P23.2: one byte again and again is turned to itself.
func TestOneByteAgain(t *testing.T) {
	for n := range 70 {
		for _, b := range []byte{0, 1, 'a', 0x7f, 0x80, 0xff} {
			s := string(bytes.Repeat([]byte{b}, n))
			turn(t, s, s)
			back(t, s, s)
		}
	}
}

// P23.1, P23.2: no byte twice. Rising bytes are one factor, turned round by one; falling ones are factors of one byte each,
// which come in order.
func TestNoByteTwice(t *testing.T) {
	number := draw()
	for n := range bytesInAll + 1 {
		up := make([]byte, n)
		for i := range up {
			up[i] = byte(i)
		}
		down := slices.Clone(up)
		slices.Reverse(down)
		last := max(n-1, 0)
		round := string(slices.Concat(up[last:], up[:last]))
		turn(t, string(up), round)
		back(t, round, string(up))
		turn(t, string(down), string(up))
		back(t, string(up), string(down))
		s := slices.Clone(up)
		for i, v := range drawnOrder(number, n) {
			s[i] = up[v]
		}
		all(t, string(up))
		all(t, string(down))
		all(t, string(s))
	}
}

// P23.1, P23.2: all bytes there are, each of them some times.
func TestAllBytes(t *testing.T) {
	number := draw()
	for _, times := range []int{1, 2, 3} {
		var s []byte
		for range times {
			for b := range bytesInAll {
				s = append(s, byte(b))
			}
		}
		all(t, string(s))
		for i, v := range drawnOrder(number, len(s)) {
			s[i] = byte(v)
		}
		all(t, string(s))
		slices.Sort(s)
		all(t, string(s))
		slices.Reverse(s)
		all(t, string(s))
	}
}

// P23.1, P23.2: a text whose factors are single bytes, as none is followed by a greater one, is turned to itself in order.
func TestFactorsOfOneByte(t *testing.T) {
	number := draw()
	for n := range 100 {
		for _, below := range []int{1, 2, 5, bytesInAll} {
			up := drawnText(number, n, 0, below)
			slices.Sort(up)
			down := slices.Clone(up)
			slices.Reverse(down)
			turn(t, string(down), string(up))
			back(t, string(up), string(down))
		}
	}
}

// ones are all texts of at most so many of these letters that are one factor.
func ones(letters string, most int) []string {
	var words []string
	for n := 1; n <= most; n++ {
		for s := range texts(n, letters) {
			if isOne(string(s)) {
				words = append(words, string(s))
			}
		}
	}
	return words
}

// P23.1, P23.2: texts that are one factor, short and long ones: the rotations of it alone.
func TestOneFactor(t *testing.T) {
	words := slices.Concat(ones("ab", 9), ones("abc", 6), ones("\x00\xff", 7), ones("\x7f\x80", 7))
	for _, n := range []int{2, 10, 33, 100, 300} {
		words = append(words,
			string(repeated("a", n-1))+"b", "a"+string(repeated("b", n-1)), "a"+string(repeated("bc", n)), "\x00"+string(repeated("\xff", n)),
			string(repeated("ab", 2*n))+"b", string(repeated("aabaabab", n))+"c", "\x00"+string(drawnText(draw(), n, 1, 255)),
		)
	}
	for _, s := range words {
		if !isOne(s) {
			t.Fatalf("%q is not one", s)
		}
		turn(t, s, turned([]string{s}))
		all(t, s)
	}
}

// P23.1, P23.2: each factor again and again, be it alone or with lesser and greater ones around: each byte of the factor's
// turn is there as often, one behind the other.
func TestLikeFactors(t *testing.T) {
	for _, word := range slices.Concat(ones("ab", 6), ones("\x00\x01\xff", 4)) {
		one := turned([]string{word})
		for times := range 9 {
			s := string(bytes.Repeat([]byte(word), times))
			var l []byte
			for i := range len(one) {
				l = append(l, bytes.Repeat([]byte{one[i]}, times)...)
			}
			turn(t, s, string(l))
			back(t, string(l), s)
			for _, other := range []string{"a", "ab", "b", "abb", "aab", "\x00", "\xff", "\x00\xff"} {
				all(t, s+other)
				all(t, other+s)
				all(t, other+s+other)
			}
		}
	}
}

// P23.1, P23.2: two factors, each again and again, however they are to each other: one the beginning of the other one, too.
func TestTwoFactors(t *testing.T) {
	words := ones("ab", 6)
	for _, u := range words {
		for _, v := range words {
			all(t, u+v)
			all(t, u+v+v)
			all(t, u+u+u+v)
			all(t, u+v+u+v+u)
		}
	}
}

// asTheyStand is as turned, but the rotations are compared as texts that end.
func asTheyStand(words []string) string {
	var all []string
	for _, word := range words {
		for i := range len(word) {
			all = append(all, word[i:]+word[:i])
		}
	}
	slices.Sort(all)
	var l []byte
	for _, rotation := range all {
		l = append(l, rotation[len(rotation)-1])
	}
	return string(l)
}

// P23.1, P23.2: rotations are sorted as words without end, not as they stand: by hand, where it makes a difference.
func TestWithoutEnd(t *testing.T) {
	for s, want := range map[string]string{
		"bab": "bab", "babb": "bbab", "abaab": "babaa", "babba": "abbab", "baabaa": "aabaab", "baabab": "bbaaab", "bababb": "bbbaab",
		"\x01\x00\x01": "\x01\x00\x01", "\xff\x00\xff\xff": "\xff\xff\x00\xff",
	} {
		turn(t, s, want)
		back(t, want, s)
		if asTheyStand(factorsInWords(s)) == want {
			t.Errorf("of %q it makes none", s)
		}
	}
}

// someTexts are texts of all kinds.
func someTexts() []string {
	number := draw()
	list := []string{
		"", "a", "ab", "ba", "banana", "mississippi", "abracadabra", "aaaaaaab", "baaaaaaa", "abababab", "bababab", "abcabcabd",
		"\x00\x00\xff\x00", "zyxwv", "vwxyz", string(joined(34)), string(repeated("aab", 64)), string(repeated("a", 33)),
	}
	for _, below := range []int{2, 3, 26, 150} {
		list = append(list, string(drawnText(number, 60, 'a', below)))
	}
	return list
}

// P23.2: turns with one byte changed, or two changed about, or with a byte more or fewer, are turns of other texts.
func TestTurnsChanged(t *testing.T) {
	for _, s := range someTexts() {
		l := []byte(turnInWords(s))
		for i, b := range l {
			for _, other := range []byte{b + 1, b ^ 0x80, 0, 0xff} {
				backOf(t, string(with(l, i, other)))
			}
			for j := range i {
				if i-j < 4 || (i+j)%7 == 0 {
					backOf(t, string(swapped(l, i, j)))
				}
			}
			backOf(t, string(l[:i])+string(l[i+1:]))
			backOf(t, string(l[:i])+"a"+string(l[i:]))
			backOf(t, string(l[:i])+"\xff"+string(l[i:]))
		}
	}
}

// P23.1, P23.3: texts of no plain rule, of few letters and of many, and such as come again, cut short or not.
func TestDrawnTexts(t *testing.T) {
	number := draw()
	for range 1500 {
		n := number(120)
		from := byte(number(bytesInAll))
		below := 1 + number(bytesInAll-1)
		if number(2) == 0 {
			below = 1 + number(4)
		}
		s := drawnText(number, n, from, below)
		all(t, string(s))
		word := drawnText(number, 1+number(9), from, below)
		all(t, string(repeated(string(word), n)))
		all(t, string(s[:number(n+1)])+string(repeated(string(word), number(60))))
		all(t, string(s[:number(n+1)])+string(s))
	}
	for n := range 90 {
		all(t, string(joined(n+1)))
	}
}

// stepped is the text of a Turn, read from its end: the bytes sorted, those that are the same as they stood, are what all
// rotations begin with; the least rotation that was not there yet is the next factor ahead.
func stepped(l []byte) []byte {
	sorted := slices.SortedStableFunc(slices.Values(rising(len(l))), func(i, j int) int { return cmp.Compare(l[i], l[j]) })
	s := make([]byte, len(l))
	begin := len(l)
	for least := range sorted {
		if sorted[least] < 0 {
			continue
		}
		var factor []byte
		for at := least; sorted[at] >= 0; {
			next := sorted[at]
			factor = append(factor, l[next])
			sorted[at] = -1
			at = next
		}
		begin -= len(factor)
		copy(s[begin:], factor)
	}
	return s
}

// TestStepped holds what reads long Turns against the words.
func TestStepped(t *testing.T) {
	for letters, longest := range fewLetters() {
		for n := range longest + 1 {
			for s := range texts(n, letters) {
				if got := stepped([]byte(turnInWords(string(s)))); !bytes.Equal(got, s) {
					t.Fatalf("%q is read as %q", s, got)
				}
			}
		}
	}
	for _, s := range someTexts() {
		if got := stepped([]byte(turnInWords(s))); string(got) != s {
			t.Fatalf("%q is read as %q", s, got)
		}
	}
}

// longTexts are texts of n bytes, of all kinds.
func longTexts(n int) [][]byte {
	number := draw()
	half := drawnText(number, n-n/2, 'a', 3)
	last, first := repeated("a", n), repeated("a", n)
	last[n-1], first[0] = 'b', 'b'
	middle := repeated("ab", n)
	middle[n/2] = 'c'
	up := drawnText(number, n, 0, bytesInAll)
	slices.Sort(up)
	down := slices.Clone(up)
	slices.Reverse(down)
	return [][]byte{
		repeated("a", n), repeated("\x00", n), repeated("\xff", n), repeated("ab", n), repeated("ba", n), repeated("aabaabab", n), joined(n),
		repeated(string(drawnText(number, 1000, 0, bytesInAll)), n), last, first, middle, slices.Concat(half, half)[:n], up, down,
		drawnText(number, n, 'a', 2), drawnText(number, n, 'a', 26), drawnText(number, n, 0, bytesInAll),
	}
}

// P23.1 to P23.3: texts of MaxText bytes, and of some fewer: turned, and back; and taken for Turns, and turned again.
func TestManyBytes(t *testing.T) {
	for _, n := range []int{5000, api.MaxText - 1, api.MaxText} {
		for which, s := range longTexts(n) {
			l, e := Turn(s)
			if e != api.OK || !sameBytes(l, s) || !bytes.Equal(stepped(l), s) {
				t.Fatalf("Turn of text %d, of %d bytes, is wrong: %v", which, n, e)
			}
			if text, e := Back(l); e != api.OK || !bytes.Equal(text, s) {
				t.Fatalf("Back of the Turn of text %d, of %d bytes, is wrong: %v", which, n, e)
			}
			text, e := Back(s)
			if e != api.OK || !bytes.Equal(text, stepped(s)) {
				t.Fatalf("Back of text %d, of %d bytes, is wrong: %v", which, n, e)
			}
			if l, e := Turn(text); e != api.OK || !bytes.Equal(l, s) {
				t.Fatalf("Turn of the Back of text %d, of %d bytes, is wrong: %v", which, n, e)
			}
		}
	}
}

// place is a rotation: of which word, and the byte that it begins with.
type place struct {
	word string
	at   int
}

// comparePlaces is how a rotation without end is to another one, byte by byte.
func comparePlaces(p, q place) int {
	i, j := p.at, q.at
	for range len(p.word) + len(q.word) {
		if p.word[i] != q.word[j] {
			return cmp.Compare(p.word[i], q.word[j])
		}
		i, j = (i+1)%len(p.word), (j+1)%len(q.word)
	}
	return 0
}

// turnedByPlaces is as turned, but no rotation is laid out: of long words these would be too many bytes.
func turnedByPlaces(words []string) string {
	var all []place
	for _, word := range words {
		for i := range len(word) {
			all = append(all, place{word, i})
		}
	}
	slices.SortFunc(all, comparePlaces)
	var l []byte
	for _, p := range all {
		l = append(l, p.word[(p.at+len(p.word)-1)%len(p.word)])
	}
	return string(l)
}

// pieces are a text parted by lengths.
func pieces(s string, lengths []int) []string {
	var words []string
	from := 0
	for _, length := range lengths {
		words = append(words, s[from:from+length])
		from += length
	}
	return words
}

// P23.1: long texts by the words, where two rotations soon differ, or are of short factors. What the factors are is asked of
// lyndon, as by their definition they would take steps by the square of the length.
func TestManyBytesInWords(t *testing.T) {
	number := draw()
	for _, n := range []int{3000, 20000, api.MaxText} {
		texts := [][]byte{
			repeated("a", n), repeated("ba", n), repeated("aabaabab", n), append([]byte{0}, drawnText(number, n-1, 1, 255)...),
			drawnText(number, n, 'a', 26), drawnText(number, n, 0, bytesInAll), drawnText(number, n, 'a', 2),
		}
		for which, s := range texts {
			words := pieces(string(s), lyndon.Factors(s))
			if l, e := Turn(s); e != api.OK || string(l) != turnedByPlaces(words) {
				t.Errorf("Turn of text %d, of %d bytes, is wrong: %v", which, n, e)
			}
		}
	}
}

// TestTurnedByPlaces holds what tells of long texts against the words.
func TestTurnedByPlaces(t *testing.T) {
	number := draw()
	list := someTexts()
	for range 300 {
		list = append(list, string(drawnText(number, number(90), 'a', 1+number(5))))
	}
	for _, s := range list {
		words := pieces(s, lyndon.Factors([]byte(s)))
		if !slices.Equal(words, factorsInWords(s)) || turnedByPlaces(words) != turned(words) {
			t.Errorf("%q is turned to %q", s, turnedByPlaces(words))
		}
	}
}

// P23.1, P23.2, W3: more than MaxText bytes are ErrLong, and no more is answered; so many there are just by what stands ahead
// of the end, not by the room behind it.
func TestTooLong(t *testing.T) {
	for _, n := range []int{api.MaxText + 1, api.MaxText + 2, 2 * api.MaxText, 1 << 20} {
		for _, s := range longTexts(n) {
			tooLong(t, s)
			tooLong(t, s[:api.MaxText+1])
		}
		s := repeated("ba", n)[:api.MaxText]
		l, e := Turn(s)
		text, f := Back(s)
		if e != api.OK || f != api.OK || !bytes.Equal(stepped(l), s) || !bytes.Equal(stepped(s), text) {
			t.Errorf("with %d bytes of room behind: %v, %v", n-len(s), e, f)
		}
	}
}

// A text of MaxText bytes is turned, and back, in well under a second: the shortest of some calls, as the machine may be
// busy with others.
func TestManyBytesSoon(t *testing.T) {
	const wellUnder = time.Second / 2
	soon := func(call func()) bool {
		for range 5 {
			began := time.Now()
			call()
			if time.Since(began) < wellUnder {
				return true
			}
		}
		return false
	}
	for which, s := range longTexts(api.MaxText) {
		l, _ := Turn(s)
		if !soon(func() { Turn(s) }) || !soon(func() { Back(l) }) || !soon(func() { Back(s) }) {
			t.Errorf("text %d takes %v and more", which, wellUnder)
		}
	}
}

// roomy is a text with so much room behind its end.
func roomy(s string, spare int) []byte {
	return append(make([]byte, 0, len(s)+spare), s...)
}

// marked lays one byte all over a list and the room behind it.
func marked(list []byte, mark byte) {
	list = list[:cap(list)]
	for i := range list {
		list[i] = mark
	}
}

// answers are what both calls answer for a text and its Turn.
func answers(s, l []byte) [][]byte {
	one, _ := Turn(s)
	two, _ := Back(l)
	return [][]byte{one, two}
}

// same holds such answers against what they are to be.
func same(t *testing.T, s string, got [][]byte) {
	t.Helper()
	if l := turnInWords(s); string(got[0]) != l || string(got[1]) != s {
		t.Fatalf("%q is turned to %q, and back to %q, not to %q", s, got[0], got[1], l)
	}
}

// P23.3, W6: what is answered shares no memory with what is handed in or with another answer, nor the room behind it; and
// what it was written over with is not told of later.
func TestAnswersShareNothing(t *testing.T) {
	for _, s := range someTexts() {
		for _, spare := range []int{0, 1, 16} {
			in, l := roomy(s, spare), roomy(turnInWords(s), spare)
			lists := append(slices.Concat(answers(in, l), answers(in, l), answers(in, l)), in, l)
			for i, list := range lists {
				marked(list, byte(i))
			}
			for i, list := range lists {
				if slices.ContainsFunc(list[:cap(list)], func(b byte) bool { return b != byte(i) }) {
					t.Errorf("two lists of %q share memory", s)
				}
			}
			same(t, s, answers(roomy(s, spare), roomy(turnInWords(s), spare)))
		}
	}
}

// P23.3, W6: what is answered is another list than what is handed in, even where it is the same bytes.
func TestTheSameBytes(t *testing.T) {
	for _, was := range []string{"a", "aa", "aaaaaaaaa", "aba", "\x00\x00"} {
		s := []byte(was)
		for _, list := range answers(s, s) {
			if string(list) != was {
				t.Errorf("%q is turned to %q", was, list)
			}
			marked(list, 'x')
		}
		if string(s) != was {
			t.Errorf("%q has become %q", was, s)
		}
	}
}

// around is a text with something ahead of it and some behind it, and the text in the midst of that.
func around(s string, by byte) (room, midst []byte) {
	room = slices.Concat([]byte{by, by}, []byte(s), []byte{by, by, by, by})
	return room, room[2 : 2+len(s)]
}

// P23.3, W6: neither what is handed in nor the room around it is changed, and that room is not told of.
func TestWhatIsHandedInStays(t *testing.T) {
	for _, by := range []byte{0, 1, 'a', 'b', 'n', 0x80, 0xff} {
		for _, s := range someTexts() {
			text, midstText := around(s, by)
			turned, midstTurned := around(turnInWords(s), by)
			wasText, wasTurned := slices.Clone(text), slices.Clone(turned)
			same(t, s, answers(midstText, midstTurned))
			Back(midstText)
			Turn(midstTurned)
			if !bytes.Equal(text, wasText) || !bytes.Equal(turned, wasTurned) {
				t.Errorf("%q, %q have become %q, %q", wasText, wasTurned, text, turned)
			}
		}
	}
	for _, n := range []int{api.MaxText, api.MaxText + 1} {
		long := repeated("ba", api.MaxText+10)
		Turn(long[:n])
		Back(long[:n])
		if !bytes.Equal(long, repeated("ba", len(long))) {
			t.Errorf("a text of %d bytes has been changed", n)
		}
	}
}

// P23.3, W2, W6, W7: what was handed in is not kept: written over, with the room behind it, it changes no answer, be it one
// that was given or a later one.
func TestNothingIsKept(t *testing.T) {
	for _, s := range someTexts() {
		for _, spare := range []int{0, 1, 16} {
			in, l := roomy(s, spare), roomy(turnInWords(s), spare)
			lists := answers(in, l)
			marked(in, 0xfe)
			marked(l, 0xfe)
			same(t, s, lists)
			turn(t, string(in), string(in))
			back(t, string(l), string(l))
			copy(in, s)
			copy(l, turnInWords(s))
			same(t, s, answers(in, l))
		}
	}
}

// P23.3, W2, W7: what is answered stays, whatever is called later, errors among it, and is answered again.
func TestAnswersStay(t *testing.T) {
	long := make([]byte, api.MaxText+1)
	for _, s := range someTexts() {
		lists := answers([]byte(s), []byte(turnInWords(s)))
		for _, later := range someTexts() {
			answers([]byte(later), []byte(later))
		}
		answers(long, long)
		same(t, s, lists)
		same(t, s, answers([]byte(s), []byte(turnInWords(s))))
	}
}

// FuzzBij takes its text from bytes, by some of their lower digits, too, and as they are again and again.
func FuzzBij(f *testing.F) {
	f.Add([]byte("banana"), byte(0xff), byte(0))
	f.Add([]byte("annbaa"), byte(0xff), byte(1))
	f.Add([]byte("aaaa"), byte(1), byte(3))
	f.Add([]byte{}, byte(2), byte(7))
	f.Add([]byte{255, 0, 254}, byte(0), byte(2))
	f.Fuzz(func(t *testing.T, b []byte, few, again byte) {
		s := slices.Clone(b[:min(len(b), 60)])
		all(t, string(s))
		// Of few letters: the fuzzer seldom makes texts that come again.
		for i := range s {
			s[i] %= max(few, 1)
		}
		all(t, string(s))
		all(t, string(bytes.Repeat(s, int(again%4))))
		all(t, string(bytes.Repeat(s, int(again%4)))+string(b[:min(len(b), 9)]))
	})
}
