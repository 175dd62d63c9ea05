package cross

import (
	"bytes"
	"iter"
	"math"
	"reflect"
	"slices"
	"strconv"
	"sync"
	"testing"
	"time"

	"whorl/api"
)

// bytesInAll is how many bytes there are.
const bytesInAll = 1 << 8

// texts are all texts of n of these letters. Each is new, so that none is left out nor comes again where one that was handed
// in is changed.
func texts(n int, letters string) iter.Seq[[]byte] {
	return func(yield func([]byte) bool) {
		which := make([]int, n)
		for {
			text := make([]byte, n)
			for i, v := range which {
				text[i] = letters[v]
			}
			if !yield(text) {
				return
			}
			at := n - 1
			for at >= 0 && which[at] == len(letters)-1 {
				which[at] = 0
				at--
			}
			if at < 0 {
				return
			}
			which[at]++
		}
	}
}

// rising is the numbers from 0 on, n of them.
func rising(n int) []int {
	row := make([]int, n)
	for i := range row {
		row[i] = i
	}
	return row
}

// falling is the numbers from n - 1 down to 0.
func falling(n int) []int {
	row := rising(n)
	slices.Reverse(row)
	return row
}

// swapped is a row with the numbers of two places changed for each other.
func swapped(a []int, i, j int) []int {
	row := slices.Clone(a)
	row[i], row[j] = row[j], row[i]
	return row
}

// draw hands over numbers of no plain rule, 0 to below - 1, the same ones each time.
func draw() func(below int) int {
	state := uint64(20)
	return func(below int) int {
		state = state*6364136223846793005 + 1442695040888963407
		return int(state>>33) % below
	}
}

// drawnText is n bytes of no plain rule, each one of so many from a letter on.
func drawnText(number func(below int) int, n int, from byte, below int) []byte {
	var text []byte
	for range n {
		text = append(text, from+byte(number(below)))
	}
	return text
}

// repeated is n bytes of a word that comes again and again, the last time cut short or not.
func repeated(word string, n int) []byte {
	return bytes.Repeat([]byte(word), n/len(word)+1)[:n]
}

// joined is n bytes of the text whose beginnings are each the two shorter ones together: all of it comes again, but never
// for long by one period.
func joined(n int) []byte {
	one, two := []byte("a"), []byte("ab")
	for len(two) < n {
		one, two = two, slices.Concat(two, one)
	}
	return two[:n]
}

// tooLong is a text of a byte more than there may be.
func tooLong() []byte { return make([]byte, api.MaxText+1) }

// compare is how two endings are to each other, byte by byte; what is the beginning of the other one is less.
func compare(s []byte, i, j int) int {
	for i < len(s) && j < len(s) {
		if s[i] != s[j] {
			return int(s[i]) - int(s[j])
		}
		i, j = i+1, j+1
	}
	return j - i
}

// endings is all places in order of their endings.
func endings(s []byte) []int {
	return slices.SortedFunc(slices.Values(rising(len(s))), func(i, j int) int { return compare(s, i, j) })
}

// counts is how many bytes neighbours have alike, counted for each of them.
func counts(s []byte, a []int) []int {
	alike := make([]int, len(a))
	for at := 1; at < len(a); at++ {
		i, j := a[at-1], a[at]
		for i < len(s) && j < len(s) && s[i] == s[j] {
			i, j = i+1, j+1
			alike[at]++
		}
	}
	return alike
}

// sorts holds Sort by each sorter against an order.
func sorts(t *testing.T, c *Cross, s []byte, want []int) {
	t.Helper()
	for sorter := range sorters {
		if got, e := c.Sort(sorter, s); e != api.OK || !slices.Equal(got, want) {
			t.Fatalf("Sort(%d, %q) is %v, %v, not %v", sorter, s, got, e, want)
		}
	}
}

// runs holds Run against an order and what neighbours have alike.
func runs(t *testing.T, c *Cross, s []byte, a, h []int) {
	t.Helper()
	v, e := c.Run(s)
	if e != api.OK || !v.OK || !slices.Equal(v.SA, a) || !slices.Equal(v.LCP, h) {
		t.Fatalf("Run(%q) is %v, %v, not %v, %v", s, v, e, a, h)
	}
}

// both holds Sort and Run against the endings compared byte by byte, and against counts of what is alike.
func both(t *testing.T, s []byte) {
	t.Helper()
	c := New()
	up := endings(s)
	sorts(t, c, s, up)
	runs(t, c, s, up, counts(s, up))
	often(t, c, [3]int{2, 2, 2})
}

// often holds Runs against numbers.
func often(t *testing.T, c *Cross, want [3]int) {
	t.Helper()
	if got := c.Runs(); got != want {
		t.Fatalf("Runs is %v, not %v", got, want)
	}
}

// noSort holds Sort against an error, beside which there is nothing.
func noSort(t *testing.T, c *Cross, sorter int, s []byte, want api.Errno) {
	t.Helper()
	if got, e := c.Sort(sorter, s); e != want || len(got) != 0 {
		t.Fatalf("Sort(%d, of %d bytes) is %v, %v, not error %v", sorter, len(s), got, e, want)
	}
}

// noRun holds Run against an error, beside which there is nothing.
func noRun(t *testing.T, c *Cross, s []byte, want api.Errno) {
	t.Helper()
	if v, e := c.Run(s); e != want || v.OK || len(v.SA) != 0 || len(v.LCP) != 0 {
		t.Fatalf("Run(of %d bytes) is %v, %v, not error %v", len(s), v, e, want)
	}
}

// P20.1: the chapter's example, and what chapters 13 and 17 have as theirs.
func TestExample(t *testing.T) {
	c := New()
	sorts(t, c, []byte("aa"), []int{1, 0})
	runs(t, c, []byte("aa"), []int{1, 0}, []int{0, 1})
	sorts(t, c, []byte("banana"), []int{5, 3, 1, 0, 4, 2})
	runs(t, c, []byte("banana"), []int{5, 3, 1, 0, 4, 2}, []int{0, 1, 3, 0, 0, 2})
	often(t, c, [3]int{4, 4, 4})
}

// P20.1, P20.2: by hand.
func TestSomeTexts(t *testing.T) {
	for _, w := range []struct {
		s    string
		a, h []int
	}{
		{"mississippi", []int{10, 7, 4, 1, 0, 9, 8, 6, 3, 5, 2}, []int{0, 1, 1, 4, 0, 0, 1, 0, 2, 1, 3}},
		{"abracadabra", []int{10, 7, 0, 3, 5, 8, 1, 4, 6, 9, 2}, []int{0, 1, 4, 1, 1, 0, 3, 0, 0, 0, 2}},
		{"aaaa", []int{3, 2, 1, 0}, []int{0, 1, 2, 3}},
		{"abab", []int{2, 0, 3, 1}, []int{0, 2, 0, 1}},
		{"cba", []int{2, 1, 0}, []int{0, 0, 0}},
		{"\xff\x00\x80\x7f", []int{1, 3, 2, 0}, []int{0, 0, 0, 0}},
		{"\x00\x00", []int{1, 0}, []int{0, 1}},
	} {
		c := New()
		sorts(t, c, []byte(w.s), w.a)
		runs(t, c, []byte(w.s), w.a, w.h)
	}
}

// P20.1, P20.2: all short texts of a few letters.
func TestAllShortTexts(t *testing.T) {
	for letters, longest := range map[string]int{"ab": 11, "abc": 7, "abcd": 5, "\x00\xff": 9, "\x7f\x80": 7, "\x00\x01\x7f\x80\xff": 4} {
		for n := range longest + 1 {
			for s := range texts(n, letters) {
				both(t, s)
			}
		}
	}
}

// P20.1, P20.2, W5: nothing, nil or empty: no places, but no error.
func TestNothing(t *testing.T) {
	c := New()
	none := [][]byte{nil, {}, make([]byte, 0, 4), []byte("ab")[:0], []byte("ab")[2:]}
	for at, s := range none {
		sorts(t, c, s, nil)
		runs(t, c, s, nil, nil)
		often(t, c, [3]int{2*at + 2, 2*at + 2, 2*at + 2})
		noSort(t, c, sorters, s, api.ErrArg)
	}
}

// P20.1, P20.2: one byte, and two, whichever they are.
func TestOneAndTwo(t *testing.T) {
	for one := range bytesInAll {
		both(t, []byte{byte(one)})
		for other := range bytesInAll {
			both(t, []byte{byte(one), byte(other)})
		}
	}
}

// P20.1, P20.2: one byte again and again: the places fall, and neighbours have all of the shorter ending alike.
func TestOneByteAgain(t *testing.T) {
	for n := range 70 {
		for _, b := range []byte{0, 1, 'a', 0x7f, 0x80, 0xff} {
			c, s := New(), bytes.Repeat([]byte{b}, n)
			sorts(t, c, s, falling(n))
			runs(t, c, s, falling(n), rising(n))
		}
	}
}

// P20.1, P20.2: no byte twice: endings are in order by their first bytes, and none are alike.
func TestNoByteTwice(t *testing.T) {
	number := draw()
	for n := range bytesInAll + 1 {
		s := make([]byte, bytesInAll)
		for i := range s {
			s[i] = byte(i)
		}
		c := New()
		sorts(t, c, s[:n], rising(n))
		runs(t, c, s[:n], rising(n), make([]int, n))
		slices.Reverse(s)
		sorts(t, c, s[:n], falling(n))
		runs(t, c, s[:n], falling(n), make([]int, n))
		for i := range s {
			j := number(i + 1)
			s[i], s[j] = s[j], s[i]
		}
		runs(t, c, s[:n], endings(s[:n]), make([]int, n))
	}
}

// P20.1, P20.2: a word again and again, cut short or not, and with one byte that is another one.
func TestWordsAgain(t *testing.T) {
	for _, word := range []string{"ab", "ba", "aab", "aba", "baa", "abc", "cba", "abaab", "aabaabab", "abcabcabd", "\x00\xff\x00"} {
		for n := range 48 {
			s := repeated(word, n)
			both(t, s)
			if n > 0 {
				s[n/2] = 'b'
				both(t, s)
				s[n-1] = 0xff
				both(t, s)
			}
		}
	}
	for n := range 90 {
		both(t, joined(n))
	}
}

// P20.1, P20.2: texts of some hundred bytes of no plain rule.
func TestLongerTexts(t *testing.T) {
	number := draw()
	for _, n := range []int{2, 3, 17, 64, 255, 256, 257, 400, 1000} {
		for _, below := range []int{1, 2, 3, 26, bytesInAll} {
			s := drawnText(number, n, byte(number(bytesInAll)), below)
			both(t, s)
			both(t, slices.Concat(s[:n/2+1], s[:n/2+1]))
		}
	}
}

// noSorters are numbers of no sorter, the least and the greatest ones among them, and such as would be one's by their lower
// digits alone.
func noSorters() []int {
	few := []int{
		math.MinInt, math.MinInt + 1, math.MinInt + 2, math.MaxInt, math.MaxInt - 1, math.MinInt32, math.MaxInt32, math.MaxUint32,
		1 << 8, 1<<8 + 1, 1<<8 + 2, 1 << 16, 1<<16 + 1, 1<<16 + 2, 1 << 31, 1<<31 + 1, 1 << 32, 1<<32 + 1, 1<<32 + 2, -1 << 32, 1 - 1<<32,
	}
	for v := 1; v <= 300; v++ {
		few = append(few, -v, sorters-1+v)
	}
	return few
}

// P20.1, W4: by a sorter that is none it is ErrArg, whatever the text is, one that is too long among them; by one that is,
// ErrLong of a text that is too long. None of that is counted.
func TestSortRefused(t *testing.T) {
	c := New()
	all := [][]byte{nil, {}, []byte("a"), []byte("banana"), repeated("ab", 100), tooLong(), repeated("ab", 3*api.MaxText)}
	for _, s := range all {
		for _, sorter := range noSorters() {
			noSort(t, c, sorter, s, api.ErrArg)
		}
		if len(s) > api.MaxText {
			for sorter := range sorters {
				noSort(t, c, sorter, s, api.ErrLong)
			}
		}
	}
	often(t, c, [3]int{})
	sorts(t, c, []byte("banana"), []int{5, 3, 1, 0, 4, 2})
	often(t, c, [3]int{1, 1, 1})
}

// P20.1: a text of more than MaxText bytes is ErrLong, and none of the sorters is counted; one of MaxText bytes is not.
func TestLong(t *testing.T) {
	c := New()
	for _, more := range []int{1, 2, 100, api.MaxText, 10 * api.MaxText} {
		for _, word := range []string{"\x00", "ab"} {
			noRun(t, c, repeated(word, api.MaxText+more), api.ErrLong)
			often(t, c, [3]int{})
		}
	}
	for _, n := range []int{api.MaxText - 1, api.MaxText} {
		s := repeated("a", n)
		sorts(t, c, s, falling(n))
		runs(t, c, s, falling(n), rising(n))
	}
	often(t, c, [3]int{4, 4, 4})
	// What is there behind the end is none of the text.
	s := tooLong()[:api.MaxText]
	sorts(t, c, s, falling(len(s)))
	runs(t, c, s, falling(len(s)), rising(len(s)))
}

// step is a call, and what it adds to Runs.
type step struct {
	name string
	call func(c *Cross)
	adds [3]int
}

// steps are calls of all kinds, those that err among them.
func steps() []step {
	long := tooLong()
	all := []step{
		{"Run", func(c *Cross) { c.Run([]byte("ba")) }, [3]int{1, 1, 1}},
		{"Run of nothing", func(c *Cross) { c.Run(nil) }, [3]int{1, 1, 1}},
		{"Run of too long a text", func(c *Cross) { c.Run(long) }, [3]int{}},
		{"Runs", func(c *Cross) { c.Runs() }, [3]int{}},
	}
	for _, sorter := range []int{-1, 0, 1, 2, 3} {
		var adds [3]int
		if sorter >= 0 && sorter < sorters {
			adds[sorter] = 1
		}
		all = append(all,
			step{"Sort by " + strconv.Itoa(sorter), func(c *Cross) { c.Sort(sorter, []byte("ba")) }, adds},
			step{"Sort of too long a text by " + strconv.Itoa(sorter), func(c *Cross) { c.Sort(sorter, long) }, [3]int{}})
	}
	return append(all, step{"Sort of nothing", func(c *Cross) { c.Sort(1, nil) }, [3]int{0, 1, 0}})
}

// sum is numbers added, place by place.
func sum(one, other [3]int) [3]int {
	for i, v := range other {
		one[i] += v
	}
	return one
}

// P20.1: Runs of one that asked none.
func TestNew(t *testing.T) {
	often(t, New(), [3]int{})
	often(t, &Cross{}, [3]int{})
	for range 3 {
		if New() == New() {
			t.Fatal("two that are new are one")
		}
	}
}

// P20.1, W3: Runs after every mixture of four calls and each fewer; it changes nothing itself.
func TestEveryMixture(t *testing.T) {
	all := steps()
	var names []string
	var walk func(done []step)
	walk = func(done []step) {
		c, want := New(), [3]int{}
		for _, s := range done {
			s.call(c)
			want = sum(want, s.adds)
		}
		if one, again := c.Runs(), c.Runs(); one != want || again != want {
			names = nil
			for _, s := range done {
				names = append(names, s.name)
			}
			t.Fatalf("after %q Runs is %v and %v, not %v", names, one, again, want)
		}
		if len(done) == 4 {
			return
		}
		for _, s := range all {
			walk(append(done[:len(done):len(done)], s))
		}
	}
	walk(nil)
}

// P20.1: each of two side by side counts its own calls, whichever they are and whatever came ahead of them.
func TestSideBySide(t *testing.T) {
	number := draw()
	for _, one := range steps() {
		for _, other := range steps() {
			a, b := New(), New()
			one.call(a)
			often(t, a, one.adds)
			often(t, b, [3]int{})
			other.call(b)
			often(t, a, one.adds)
			often(t, b, other.adds)
			often(t, New(), [3]int{})
		}
	}
	all := steps()
	a, b := New(), New()
	var wantA, wantB [3]int
	for range 1000 {
		s := all[number(len(all))]
		if number(2) == 0 {
			s.call(a)
			wantA = sum(wantA, s.adds)
		} else {
			s.call(b)
			wantB = sum(wantB, s.adds)
		}
		often(t, a, wantA)
		often(t, b, wantB)
	}
}

// P20.1: Runs goes on and on.
func TestRunsOften(t *testing.T) {
	c := New()
	for n := range 70000 {
		c.Sort(2, nil)
		if n%1000 == 0 {
			often(t, c, [3]int{0, 0, n + 1})
		}
	}
	c.Run(nil)
	often(t, c, [3]int{1, 1, 70001})
}

// P20.1: what was asked before is not told of in what is answered: neither Sort nor Run hangs on another call.
func TestAnswersHangOnNoOtherCall(t *testing.T) {
	c := New()
	for _, one := range []string{"", "a", "aa", "banana", "ba", "mississippi"} {
		for _, s := range steps() {
			s.call(c)
			a := endings([]byte(one))
			sorts(t, c, []byte(one), a)
			s.call(c)
			runs(t, c, []byte(one), a, counts([]byte(one), a))
		}
	}
}

// P20.1, Ways: Runs counts right when several goroutines ask one Cross, and each of them has its own answers.
func TestAtOnce(t *testing.T) {
	c := New()
	const goroutines, turns = 32, 200
	wrong := make([]string, goroutines)
	begin := make(chan struct{})
	var all sync.WaitGroup
	for g := range goroutines {
		all.Go(func() {
			s := repeated("abaab"[g%5:], g)
			want := endings(s)
			h := counts(s, want)
			<-begin
			for turn := range turns {
				sorter := (g + turn) % sorters
				if got, e := c.Sort(sorter, s); e != api.OK || !slices.Equal(got, want) {
					wrong[g] = "Sort"
				}
				if v, e := c.Run(s); e != api.OK || !v.OK || !slices.Equal(v.SA, want) || !slices.Equal(v.LCP, h) {
					wrong[g] = "Run"
				}
				if _, e := c.Sort(3+turn, s); e != api.ErrArg {
					wrong[g] = "Sort by a sorter that is none"
				}
				// Others go on meanwhile, so that only the least is known.
				if often := c.Runs(); min(often[0], often[1], often[2]) <= turn || max(often[0], often[1], often[2]) > 2*goroutines*turns {
					wrong[g] = "Runs"
				}
			}
		})
	}
	close(begin)
	all.Wait()
	for g, name := range wrong {
		if name != "" {
			t.Errorf("%s is wrong in goroutine %d", name, g)
		}
	}
	want := [3]int{goroutines * turns, goroutines * turns, goroutines * turns}
	for g := range goroutines {
		for turn := range turns {
			want[(g+turn)%sorters]++
		}
	}
	often(t, c, want)
}

// P20.1, Ways: likewise, of calls that take next to no time, so that many count at one time.
func TestManyAtOnce(t *testing.T) {
	c := New()
	const goroutines, turns = 16, 20000
	long := tooLong()
	begin := make(chan struct{})
	var all sync.WaitGroup
	for g := range goroutines {
		all.Go(func() {
			<-begin
			for range turns {
				c.Sort(g%sorters, nil)
				c.Sort(g%sorters, long)
				c.Run(long)
			}
		})
	}
	close(begin)
	all.Wait()
	var want [3]int
	for g := range goroutines {
		want[g%sorters] += turns
	}
	often(t, c, want)
}

// Ways: what a Cross keeps is of sync/atomic.
func TestCountedByAtomic(t *testing.T) {
	kept := reflect.TypeFor[Cross]()
	if kept.NumField() == 0 {
		t.Fatal("a Cross keeps nothing")
	}
	for i := range kept.NumField() {
		of := kept.Field(i).Type
		for of.Kind() == reflect.Array {
			of = of.Elem()
		}
		if of.PkgPath() != "sync/atomic" {
			t.Errorf("%s is a %v", kept.Field(i).Name, of)
		}
	}
}

// P20.2, W8: a nil Cross answers ErrArg and noughts, whatever it is asked.
func TestNil(t *testing.T) {
	var c *Cross
	for range 2 {
		for _, s := range [][]byte{nil, {}, []byte("a"), []byte("banana"), make([]byte, api.MaxText), tooLong()} {
			for _, sorter := range append(noSorters(), 0, 1, 2) {
				noSort(t, c, sorter, s, api.ErrArg)
			}
			noRun(t, c, s, api.ErrArg)
		}
		often(t, c, [3]int{})
	}
}

// W8: a Cross that New did not make is one that asked none.
func TestZeroCross(t *testing.T) {
	var c Cross
	often(t, &c, [3]int{})
	sorts(t, &c, []byte("aa"), []int{1, 0})
	runs(t, &c, []byte("aa"), []int{1, 0}, []int{0, 1})
	noRun(t, &c, tooLong(), api.ErrLong)
	often(t, &c, [3]int{2, 2, 2})
}

// P20.1: OK is whether all three sorters come to the same, and that is the order of endings: orders that differ, or that
// are the same but another one, are told of.
func TestVerdict(t *testing.T) {
	for n := range 7 {
		for s := range texts(n, "ab") {
			up := endings(s)
			h := counts(s, up)
			v := verdict(s, [sorters][]int{up, up, up})
			if !v.OK || !slices.Equal(v.SA, up) || !slices.Equal(v.LCP, h) {
				t.Fatalf("of %q and its order of endings the verdict is %v", s, v)
			}
			wrong := [][]int{append(rising(n), n), rising(n + 1), make([]int, n+1)}
			if n > 0 {
				wrong = append(wrong, nil, up[1:], up[:n-1], slices.Repeat([]int{n}, n), slices.Repeat([]int{-1}, n))
			}
			for i := range n {
				for j := range i {
					wrong = append(wrong, swapped(up, i, j))
				}
			}
			for _, a := range wrong {
				for _, orders := range [][sorters][]int{{a, up, up}, {up, a, up}, {up, up, a}, {up, a, a}, {a, up, a}, {a, a, up}, {a, a, a}} {
					if verdict(s, orders).OK {
						t.Fatalf("of %q, %v is told to be OK", s, orders)
					}
				}
			}
		}
	}
}

// isOrder tells whether a row is the order of endings of a long text: each place is there once, and each ending is less than
// the next one, by its first byte, or by where the two endings behind these stand.
func isOrder(s []byte, a []int) bool {
	if len(a) != len(s) {
		return false
	}
	where := slices.Repeat([]int{-1}, len(s)+1)
	for at, place := range a {
		if place < 0 || place >= len(s) || where[place] >= 0 {
			return false
		}
		where[place] = at
	}
	for at := 1; at < len(a); at++ {
		i, j := a[at-1], a[at]
		if s[i] > s[j] || s[i] == s[j] && where[i+1] >= where[j+1] {
			return false
		}
	}
	return true
}

// areAlike tells whether numbers are what neighbours of a long text's order of endings have alike: as many bytes are, and
// the next ones are not.
func areAlike(s []byte, a, h []int) bool {
	if len(h) != len(a) || len(h) > 0 && h[0] != 0 {
		return false
	}
	for at := 1; at < len(a); at++ {
		n := h[at]
		if n < 0 || n > len(s)-max(a[at-1], a[at]) {
			return false
		}
		one, other := s[a[at-1]:], s[a[at]:]
		if !bytes.Equal(one[:n], other[:n]) || n < min(len(one), len(other)) && one[n] == other[n] {
			return false
		}
	}
	return true
}

// TestWhatTellsOfLongTexts holds what tells of long texts against the endings compared byte by byte, and counts.
func TestWhatTellsOfLongTexts(t *testing.T) {
	for n := range 8 {
		for s := range texts(n, "ab") {
			up := endings(s)
			h := counts(s, up)
			if !isOrder(s, up) || !areAlike(s, up, h) {
				t.Fatalf("%q, %v, %v are told not to hold", s, up, h)
			}
			for i := range n {
				more, fewer := slices.Clone(h), slices.Clone(h)
				more[i]++
				fewer[i]--
				if areAlike(s, up, more) || areAlike(s, up, fewer) {
					t.Fatalf("%q, %v, %v or %v are told to hold", s, up, more, fewer)
				}
				for j := range i {
					if isOrder(s, swapped(up, i, j)) {
						t.Fatalf("%q, %v is told to hold", s, swapped(up, i, j))
					}
				}
			}
		}
	}
}

// longTexts are texts of n bytes, of all kinds.
func longTexts(n int) [][]byte {
	number := draw()
	half := drawnText(number, n-n/2, 'a', 3)
	last := repeated("a", n)
	last[n-1] = 'b'
	middle := repeated("ab", n)
	middle[n/2] = 'c'
	return [][]byte{
		repeated("a", n), repeated("\x00", n), repeated("\xff", n), repeated("ba", n), repeated("aabaabab", n), joined(n),
		repeated(string(drawnText(number, 1000, 0, bytesInAll)), n), last, middle, slices.Concat(half, half)[:n],
		drawnText(number, n, 'a', 2), drawnText(number, n, 'a', 26), drawnText(number, n, 0, bytesInAll),
	}
}

// P20.1, P20.2: texts of MaxText bytes, and of some fewer.
func TestManyBytes(t *testing.T) {
	c := New()
	asked := 0
	for _, n := range []int{5000, api.MaxText - 1, api.MaxText} {
		for at, s := range longTexts(n) {
			v, e := c.Run(s)
			if e != api.OK || !v.OK || !isOrder(s, v.SA) || !areAlike(s, v.SA, v.LCP) {
				t.Errorf("Run of text %d, of %d bytes, is wrong", at, n)
			}
			for sorter := range sorters {
				if got, e := c.Sort(sorter, s); e != api.OK || !slices.Equal(got, v.SA) {
					t.Errorf("Sort(%d) of text %d, of %d bytes, is wrong", sorter, at, n)
				}
			}
			asked += 2
			often(t, c, [3]int{asked, asked, asked})
		}
	}
}

// A text of MaxText bytes is sorted in well under a second, by each sorter and by all of them: the shortest of some calls,
// as the machine may be busy with others.
func TestManyBytesSoon(t *testing.T) {
	const wellUnder = time.Second / 2
	soon := func(call func()) bool {
		for range 5 {
			began := time.Now()
			call()
			if time.Since(began) < wellUnder {
				return true
			}
		}
		return false
	}
	c := New()
	for at, s := range longTexts(api.MaxText) {
		for sorter := range sorters {
			if !soon(func() { c.Sort(sorter, s) }) {
				t.Errorf("Sort(%d) of text %d takes %v and more", sorter, at, wellUnder)
			}
		}
		if !soon(func() { c.Run(s) }) {
			t.Errorf("Run of text %d takes %v and more", at, wellUnder)
		}
	}
}

// memoryCases are texts whose memory is held against that of answers.
func memoryCases() []string {
	return []string{
		"", "a", "ab", "ba", "aa", "aaaa", "abcd", "banana", "mississippi", "abracadabra", "\x00\xff\x00", string(joined(60)),
		string(repeated("aab", 64)), string(repeated("a", 33)), string(drawnText(draw(), 100, 0, bytesInAll)),
	}
}

// answers are all lists that a text has as answers: of Sort by each sorter, then the two of Run.
func answers(c *Cross, s []byte) [][]int {
	var lists [][]int
	for sorter := range sorters {
		list, _ := c.Sort(sorter, s)
		lists = append(lists, list)
	}
	v, _ := c.Run(s)
	return append(lists, v.SA, v.LCP)
}

// wanted is what answers are to be.
func wanted(s string) [][]int {
	up := endings([]byte(s))
	return [][]int{up, up, up, up, counts([]byte(s), up)}
}

// same holds answers against what they are to be.
func same(t *testing.T, s string, got [][]int) {
	t.Helper()
	if !slices.EqualFunc(got, wanted(s), slices.Equal) {
		t.Fatalf("the answers of %q are %v, not %v", s, got, wanted(s))
	}
}

// marked lays a number all over a list and the room behind it.
func marked[V any](list []V, mark V) {
	list = list[:cap(list)]
	for i := range list {
		list[i] = mark
	}
}

// P20.2, W6: what is answered shares no memory with any other answer, the two lists of one answer among them, nor the room
// behind it; and what it was written over with is not told of later.
func TestAnswersShareNothing(t *testing.T) {
	c, other := New(), New()
	for _, s := range memoryCases() {
		text := []byte(s)
		lists := slices.Concat(answers(c, text), answers(c, text), answers(other, text))
		for i, list := range lists {
			marked(list, -1-i)
		}
		for i, list := range lists {
			if slices.ContainsFunc(list[:cap(list)], func(v int) bool { return v != -1-i }) {
				t.Errorf("two answers of %q share memory", s)
			}
		}
		if string(text) != s {
			t.Errorf("%q has become %q with its answers", s, text)
		}
		same(t, s, answers(c, text))
		same(t, s, answers(other, text))
	}
}

// P20.2, W6: neither what is handed in nor the room around it is changed, and that room is not told of.
func TestWhatIsHandedInStays(t *testing.T) {
	c := New()
	for _, by := range []byte{0, 1, 'a', 'b', 'n', 0x80, 0xff} {
		for _, s := range memoryCases() {
			room := slices.Concat([]byte{by, by}, []byte(s), []byte{by, by, by, by})
			was := slices.Clone(room)
			same(t, s, answers(c, room[2:2+len(s)]))
			c.Sort(-1, room[2:2+len(s)])
			if !bytes.Equal(room, was) {
				t.Errorf("%q has become %q", was, room)
			}
		}
	}
	long := repeated("ab", api.MaxText+10)
	c.Run(long[:api.MaxText+1])
	for sorter := range sorters + 1 {
		c.Sort(sorter, long[:api.MaxText+1])
	}
	if !bytes.Equal(long, repeated("ab", len(long))) {
		t.Error("a long text has been changed")
	}
}

// P20.2, W2, W6, W7: what was handed in is not kept: written over, with the room behind it, it changes no answer, be it one
// that was given or a later one.
func TestNothingIsKept(t *testing.T) {
	c := New()
	for _, s := range memoryCases() {
		for _, spare := range []int{0, 1, 16} {
			text := append(make([]byte, 0, len(s)+spare), s...)
			lists := answers(c, text)
			marked(text, 0xfe)
			same(t, s, lists)
			same(t, string(text), answers(c, text))
			copy(text, s)
			same(t, s, answers(c, text))
		}
	}
}

// P20.2, W7: what is answered stays, whatever is called later, and is answered again.
func TestAnswersStay(t *testing.T) {
	c, other := New(), New()
	for _, s := range memoryCases() {
		lists := answers(c, []byte(s))
		for _, later := range memoryCases() {
			answers(c, []byte(later))
			answers(other, []byte(later))
		}
		for _, later := range steps() {
			later.call(c)
		}
		same(t, s, lists)
		same(t, s, answers(c, []byte(s)))
	}
}

// FuzzCross takes its text from bytes, by some of their lower digits.
func FuzzCross(f *testing.F) {
	f.Add([]byte("banana"), 0, byte(0xff))
	f.Add([]byte("aaaa"), 1, byte(1))
	f.Add([]byte{}, 2, byte(2))
	f.Add([]byte("ab"), -1, byte(7))
	f.Add([]byte("abc"), 3, byte(3))
	f.Fuzz(func(t *testing.T, s []byte, sorter int, few byte) {
		s = slices.Clone(s[:min(len(s), 2000)])
		both(t, s)
		// Of few letters: the fuzzer seldom makes texts that come again.
		for i := range s {
			s[i] %= max(few, 1)
		}
		both(t, s)
		if sorter < 0 || sorter >= sorters {
			noSort(t, New(), sorter, s, api.ErrArg)
		}
	})
}
