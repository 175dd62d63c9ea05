package kinds

import (
	"math"
	"slices"
	"testing"

	"whorl/api"
)

// rows hands over all rows of at most so many numbers, each of them one of those given.
func rows(longest int, numbers []int, each func([]int)) {
	row := make([]int, 0, longest)
	var lay func()
	lay = func() {
		each(row)
		if len(row) == longest {
			return
		}
		for _, v := range numbers {
			row = append(row, v)
			lay()
			row = row[:len(row)-1]
		}
	}
	lay()
}

// lessEnding tells whether the ending at i is less than the one at j, number by number; the empty one is less than
// all others.
func lessEnding(s []int, i, j int) bool {
	for i < len(s) && j < len(s) {
		if s[i] != s[j] {
			return s[i] < s[j]
		}
		i++
		j++
	}
	return i == len(s) && j < len(s)
}

// smallInWords is what Small is to answer, by the endings themselves.
func smallInWords(s []int) []bool {
	var small []bool
	for i := range s {
		small = append(small, lessEnding(s, i, i+1))
	}
	return small
}

// firstInWords is what First is to answer, by the endings themselves.
func firstInWords(s []int) []int {
	var first []int
	for i := range s {
		if i >= 1 && lessEnding(s, i, i+1) && !lessEnding(s, i-1, i) {
			first = append(first, i)
		}
	}
	return first
}

// check holds Small and First of a row against answers.
func check(t *testing.T, s []int, small []bool, first []int) {
	t.Helper()
	if got := Small(s); !slices.Equal(got, small) {
		t.Errorf("Small(%v) is %v, not %v", s, got, small)
	}
	if got := First(s); !slices.Equal(got, first) {
		t.Errorf("First(%v) is %v, not %v", s, got, first)
	}
}

// checkRule holds what follows against Small of a row: each place by its number, the next one and the next answer.
func checkRule(t *testing.T, s []int) {
	t.Helper()
	small := Small(s)
	if len(small) != len(s) {
		t.Fatalf("of %d numbers Small tells %d", len(s), len(small))
	}
	for i, is := range small {
		want := false
		if i+1 < len(s) {
			want = s[i] < s[i+1] || s[i] == s[i+1] && small[i+1]
		}
		if is != want {
			t.Fatalf("of %d numbers place %d is small: %t, not %t", len(s), i, is, want)
		}
	}
}

// told is a row of answers from a text: s for a small place.
func told(text string) []bool {
	var small []bool
	for _, c := range []byte(text) {
		small = append(small, c == 's')
	}
	return small
}

// P11.1: Small and First of all short rows of small numbers, and of such as are far apart.
func TestAllShortRows(t *testing.T) {
	for _, c := range []struct {
		longest int
		numbers []int
	}{
		{12, []int{0, 1}},
		{8, []int{0, 1, 2}},
		{6, []int{-2, -1, 0, 1, 2}},
		{7, []int{math.MinInt, 0, math.MaxInt}},
		{6, []int{math.MinInt, math.MinInt + 1, math.MaxInt - 1, math.MaxInt}},
	} {
		rows(c.longest, c.numbers, func(s []int) {
			check(t, s, smallInWords(s), firstInWords(s))
		})
	}
}

// P11.2: a place is small just if its number is less than the next one, or the same, and the next one is small.
func TestRuleOfAllShortRows(t *testing.T) {
	rows(8, []int{0, 1, 2}, func(s []int) { checkRule(t, s) })
	rows(6, []int{math.MinInt, -1, 1, math.MaxInt}, func(s []int) { checkRule(t, s) })
}

// P11.1: by hand; the first one is the chapter's example.
func TestSomeRows(t *testing.T) {
	for _, c := range []struct {
		s     []int
		small string
		first []int
	}{
		{[]int{1, 0, 0, 2, 1}, "-ss--", []int{1}},
		{nil, "", nil},
		{[]int{}, "", nil},
		{[]int{0}, "-", nil},
		{[]int{5}, "-", nil},
		{[]int{-5}, "-", nil},
		{[]int{math.MinInt}, "-", nil},
		{[]int{math.MaxInt}, "-", nil},
		{[]int{0, 1}, "s-", nil},
		{[]int{1, 0}, "--", nil},
		{[]int{0, 0}, "--", nil},
		// The small places that a row begins with have no place ahead of them.
		{[]int{0, 0, 1}, "ss-", nil},
		{[]int{0, 0, 1, 0, 1}, "ss-s-", []int{3}},
		{[]int{2, 1, 1, 2}, "-ss-", []int{1}},
		{[]int{2, 1, 1, 0}, "----", nil},
		{[]int{1, 1, 0, 0, 1, 1}, "--ss--", []int{2}},
		{[]int{3, 3, 1, 1, 2, 2, 0, 0, 4}, "--ss--ss-", []int{2, 6}},
		{[]int{1, 0, 1, 0, 1, 0, 1}, "-s-s-s-", []int{1, 3, 5}},
		{[]int{0, 1, 0, 1, 0, 1, 0}, "s-s-s--", []int{2, 4}},
		{[]int{1, 0, 3, 0, 3, 0}, "-s-s--", []int{1, 3}},
		{[]int{-1, -2, -2, -1}, "-ss-", []int{1}},
		{[]int{-1, -2, 0, -3}, "-s--", []int{1}},
		{[]int{math.MinInt, math.MaxInt}, "s-", nil},
		{[]int{math.MaxInt, math.MinInt}, "--", nil},
		{[]int{math.MaxInt, math.MinInt, math.MinInt, math.MaxInt}, "-ss-", []int{1}},
		{[]int{math.MinInt, math.MinInt, math.MinInt}, "---", nil},
		{[]int{math.MaxInt, math.MaxInt, math.MaxInt}, "---", nil},
		{[]int{math.MaxInt, math.MaxInt - 1, math.MaxInt}, "-s-", []int{1}},
		{[]int{0, math.MinInt, 0, math.MaxInt, 0}, "-ss--", []int{1}},
		// Numbers whose lower 32 digits say otherwise.
		{[]int{1 << 32, 1}, "--", nil},
		{[]int{1, 1 << 32}, "s-", nil},
		{[]int{1 << 32, 0, 1 << 32}, "-s-", []int{1}},
	} {
		check(t, c.s, told(c.small), c.first)
	}
}

// P11.1: rows that rise are small but for the last place; rows that fall, and those of one number, are not at all.
func TestOneWay(t *testing.T) {
	for _, n := range []int{1, 2, 3, 10, 257, 1000} {
		for _, from := range []int{0, -n / 2, -n, math.MinInt, math.MaxInt - n + 1} {
			rise, fall, same := make([]int, n), make([]int, n), make([]int, n)
			for i := range n {
				rise[i], fall[i], same[i] = from+i, from+n-1-i, from
			}
			up := slices.Repeat([]bool{true}, n)
			up[n-1] = false
			check(t, rise, up, nil)
			check(t, fall, make([]bool, n), nil)
			check(t, same, make([]bool, n), nil)
		}
	}
}

// P11.1: a long run of one number is all small ahead of a greater one, and not at all ahead of a less one or none.
func TestLongRuns(t *testing.T) {
	for _, n := range []int{1, 2, 3, 100, 1000} {
		for _, number := range []int{0, 7, -7, math.MinInt + 1, math.MaxInt - 1} {
			run := slices.Repeat([]int{number}, n)
			all, none := slices.Repeat([]bool{true}, n), make([]bool, n)
			less, more := number-1, number+1
			check(t, run, none, nil)
			check(t, slices.Concat(run, []int{more}), slices.Concat(all, told("-")), nil)
			check(t, slices.Concat(run, []int{less}), slices.Concat(none, told("-")), nil)
			// With a greater number ahead, the run's first place is the only one that begins small ones.
			check(t, slices.Concat([]int{more}, run), slices.Concat(told("-"), none), nil)
			check(t, slices.Concat([]int{more}, run, []int{more}), slices.Concat(told("-"), all, told("-")), []int{1})
			check(t, slices.Concat([]int{more}, run, []int{less}), slices.Concat(told("-"), none, told("-")), nil)
			// With a less number ahead, the run belongs to small places that begin earlier.
			check(t, slices.Concat([]int{less}, run, []int{more}), slices.Concat(told("s"), all, told("-")), nil)
			check(t, slices.Concat([]int{less}, run, []int{less}), slices.Concat(told("s"), none, told("-")), nil)
			check(t, slices.Concat([]int{more}, run, []int{more}, run, []int{less}, run, []int{more}),
				slices.Concat(told("-"), all, told("-"), none, told("s"), all, told("-")), []int{1, 2*n + 2})
		}
	}
}

// P11.1, P11.2: the last place is never small, and so is never one that begins small ones; nor is place 0.
func TestEnds(t *testing.T) {
	rows(7, []int{-1, 0, 1}, func(s []int) {
		if len(s) == 0 {
			return
		}
		if Small(s)[len(s)-1] {
			t.Errorf("the last place of %v is small", s)
		}
		first := First(s)
		if slices.Contains(first, 0) || slices.Contains(first, len(s)-1) {
			t.Errorf("First(%v) is %v", s, first)
		}
	})
}

// mixed hands over numbers of no plain rule, 0 to below - 1, the same ones each time.
func mixed() func(below int) int {
	state := uint64(11)
	return func(below int) int {
		state = state*6364136223846793005 + 1442695040888963407
		return int(state>>33) % below
	}
}

// P11.1: rows of some hundred numbers of few and of many kinds, by the endings themselves.
func TestLongerRows(t *testing.T) {
	number := mixed()
	for _, kinds := range []int{1, 2, 3, 10, 1 << 30} {
		for _, n := range []int{2, 17, 300, 700} {
			s := make([]int, n)
			for i := range s {
				s[i] = number(kinds) - kinds/2
			}
			check(t, s, smallInWords(s), firstInWords(s))
			checkRule(t, s)
		}
	}
}

// P11.1: many numbers; the chapter names no bound, so rows of more than MaxText numbers are told of, too.
func TestManyNumbers(t *testing.T) {
	for _, n := range []int{api.MaxText - 1, api.MaxText, api.MaxText + 1, 10 * api.MaxText} {
		run := slices.Repeat([]int{3}, n)
		all, none := slices.Repeat([]bool{true}, n-1), make([]bool, n)
		if !slices.Equal(Small(run), none) || len(First(run)) != 0 {
			t.Errorf("of one number %d times a place is small", n)
		}
		run[n-1] = 4
		if !slices.Equal(Small(run), append(all, false)) || len(First(run)) != 0 {
			t.Errorf("of one number, %d in all and a greater one at last, a place is not small", n)
		}
		run[0] = 4
		if small := Small(run); len(small) != n || small[0] || !small[1] || !slices.Equal(First(run), []int{1}) {
			t.Errorf("of %d numbers, the greater ones at both ends, the first is %v", n, First(run))
		}
		for i := range run {
			run[i] = 1 - i%2
		}
		first := First(run)
		for i, place := range first {
			if place != 2*i+1 {
				t.Fatalf("of %d numbers 1 and 0 by turns place %d begins small ones", n, place)
			}
		}
		if len(first) != (n-1)/2 {
			t.Errorf("of %d numbers 1 and 0 by turns %d places begin small ones", n, len(first))
		}
		checkRule(t, run)
	}
}

// W5: a nil row and an empty one are the same.
func TestNilIsEmpty(t *testing.T) {
	for _, none := range [][]int{nil, {}, make([]int, 0, 4), []int{1, 2, 0, 1}[:0], []int{1, 2}[1:1]} {
		if small, first := Small(none), First(none); len(small) != 0 || len(first) != 0 {
			t.Errorf("of no numbers, with room for %d, Small is %v, First %v", cap(none), small, first)
		}
	}
}

// W6: neither the row nor the room around it is changed, and that room is not told of.
func TestWhatIsHandedInStays(t *testing.T) {
	for _, around := range []int{-9, 0, 1, 9, math.MinInt, math.MaxInt} {
		rows(5, []int{0, 1, 2}, func(s []int) {
			room := slices.Concat([]int{around, around}, s, []int{around, around})
			was := slices.Clone(room)
			check(t, room[2:2+len(s)], smallInWords(s), firstInWords(s))
			if !slices.Equal(room, was) {
				t.Errorf("%v has become %v", was, room)
			}
		})
	}
}

// memoryCases are rows whose answers' memory is held against that of others: such as are their own First but for
// the length among them.
func memoryCases() [][]int {
	return [][]int{
		nil, {0}, {1, 0, 1}, {1, 0, 0, 2, 1}, {1, 3, 5, 1, 0, 1, 0}, {0, 1, 2, 3}, {3, 2, 1, 0}, {4, 4, 4, 4},
		{2, 1, 2, 1, 2, 1, 2, 1, 2, 1, 2}, slices.Repeat([]int{1, 0}, 40),
	}
}

// marked lays a value all over a list and the room behind it.
func marked[E any](list []E, mark E) {
	list = list[:cap(list)]
	for i := range list {
		list[i] = mark
	}
}

// P11.2, W6: what is answered shares no memory with the row, nor the room behind it, whichever of both is written
// over.
func TestAnswersAreNotTheRow(t *testing.T) {
	for _, c := range memoryCases() {
		for _, spare := range []int{0, 8} {
			s := append(make([]int, 0, len(c)+spare), c...)
			small, first := Small(s), First(s)
			marked(first, -7)
			marked(small, true)
			if !slices.Equal(s, c) || slices.Contains(s[:cap(s)], -7) {
				t.Errorf("%v has become %v with its answers", c, s[:cap(s)])
			}
			small, first = Small(s), First(s)
			marked(s, -7)
			if !slices.Equal(small, smallInWords(c)) || !slices.Equal(first, firstInWords(c)) || slices.Contains(first[:cap(first)], -7) {
				t.Errorf("the answers of %v have become %v, %v with it", c, small, first[:cap(first)])
			}
		}
	}
}

// P11.2, W6: no two answers share memory, nor the room behind them.
func TestAnswersShareNothing(t *testing.T) {
	for _, c := range memoryCases() {
		one, other := Small(c), Small(c)
		marked(one, true)
		marked(other, false)
		if slices.Contains(one[:cap(one)], false) {
			t.Errorf("two Smalls of %v share memory", c)
		}
		left, right := First(c), First(c)
		marked(left, -1)
		marked(right, -2)
		if slices.Contains(left[:cap(left)], -2) {
			t.Errorf("two Firsts of %v share memory", c)
		}
		// What an answer was written over with is not told of later.
		check(t, c, smallInWords(c), firstInWords(c))
	}
}

// W7: what is answered stays, whatever is called later.
func TestAnswersStay(t *testing.T) {
	for _, c := range memoryCases() {
		small, first := Small(c), First(c)
		for _, later := range memoryCases() {
			Small(later)
			First(later)
		}
		if !slices.Equal(small, smallInWords(c)) || !slices.Equal(first, firstInWords(c)) {
			t.Errorf("the answers of %v have become %v, %v", c, small, first)
		}
	}
}

// FuzzKinds takes its numbers from bytes: 0 and 255 stand for the least and the greatest int, and each other one
// for its distance from 128.
func FuzzKinds(f *testing.F) {
	f.Add([]byte{1, 0, 0, 2, 1})
	f.Add([]byte{})
	f.Add([]byte{255, 255, 0, 0, 255})
	f.Add([]byte{130, 130, 130, 129, 129, 131, 100})
	f.Fuzz(func(t *testing.T, b []byte) {
		var s []int
		for _, v := range b[:min(len(b), 300)] {
			switch v {
			case 0:
				s = append(s, math.MinInt)
			case 255:
				s = append(s, math.MaxInt)
			default:
				s = append(s, int(v)-128)
			}
		}
		check(t, s, smallInWords(s), firstInWords(s))
		checkRule(t, s)
	})
}
