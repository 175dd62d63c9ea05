package induce

import (
	"math"
	"slices"
	"testing"

	"whorl/api"
)

// most is the greatest k, by chapter 10.
const most = 1048576

// rows hands over all rows of at most so many numbers, each 0 to below - 1.
func rows(longest, below int, each func([]int)) {
	row := make([]int, 0, longest)
	var lay func()
	lay = func() {
		each(row)
		if len(row) == longest {
			return
		}
		for v := range below {
			row = append(row, v)
			lay()
			row = row[:len(row)-1]
		}
	}
	lay()
}

// orders hands over a list in every order.
func orders(list []int, each func([]int)) {
	order := slices.Clone(list)
	var lay func(from int)
	lay = func(from int) {
		if from == len(order) {
			each(order)
			return
		}
		for i := from; i < len(order); i++ {
			order[from], order[i] = order[i], order[from]
			lay(from + 1)
			order[from], order[i] = order[i], order[from]
		}
	}
	lay(0)
}

// above is the least k that a row may have.
func above(s []int) int {
	if len(s) == 0 {
		return 0
	}
	return slices.Max(s) + 1
}

// compareEndings compares the endings at i and j, number by number; the empty one is less than all others.
func compareEndings(s []int, i, j int) int {
	return slices.Compare(s[i:], s[j:])
}

// smallAt tells whether the ending at a place is less than the next place's one.
func smallAt(s []int, place int) bool {
	return compareEndings(s, place, place+1) < 0
}

// firstOf is the First of a row, by the words of chapter 11, rising.
func firstOf(s []int) []int {
	var first []int
	for i := range s {
		if i >= 1 && smallAt(s, i) && !smallAt(s, i-1) {
			first = append(first, i)
		}
	}
	return first
}

// byEndings is a list of places in order of their endings.
func byEndings(s, places []int) []int {
	row := slices.Clone(places)
	slices.SortFunc(row, func(i, j int) int { return compareEndings(s, i, j) })
	return row
}

// counted is the numbers from 0 on, n of them.
func counted(n int) []int {
	numbers := make([]int, n)
	for i := range numbers {
		numbers[i] = i
	}
	return numbers
}

// slot is one of the n: what it has, and by which step; 0 is none.
type slot struct{ has, by int }

// bucketOf is the bucket of a number: of the n those from one on, up to another one.
func bucketOf(s []int, number int) (from, to int) {
	for _, v := range s {
		if v < number {
			from++
		}
		if v <= number {
			to++
		}
	}
	return from, to
}

// toFirst lays a place in the first one of its bucket that fits.
func toFirst(t *testing.T, slots []slot, s []int, place, step int, fits func(slot) bool) {
	t.Helper()
	from, to := bucketOf(s, s[place])
	for i := from; i < to; i++ {
		if fits(slots[i]) {
			slots[i] = slot{place, step}
			return
		}
	}
	t.Fatalf("by step %d there is no room for place %d of %v", step, place, s)
}

// toLast lays a place in the last one of its bucket that fits.
func toLast(t *testing.T, slots []slot, s []int, place, step int, fits func(slot) bool) {
	t.Helper()
	from, to := bucketOf(s, s[place])
	for i := to - 1; i >= from; i-- {
		if fits(slots[i]) {
			slots[i] = slot{place, step}
			return
		}
	}
	t.Fatalf("by step %d there is no room for place %d of %v", step, place, s)
}

// sortInWords is the chapter's three steps, one after the other. Buckets do not hang on k.
func sortInWords(t *testing.T, s, first []int) []int {
	t.Helper()
	slots := make([]slot, len(s))
	isEmpty := func(at slot) bool { return at.by == 0 }
	notBy := func(step int) func(slot) bool {
		return func(at slot) bool { return at.by != step }
	}
	for _, place := range slices.Backward(first) {
		toLast(t, slots, s, place, 1, isEmpty)
	}
	if len(s) > 0 {
		toFirst(t, slots, s, len(s)-1, 2, isEmpty)
	}
	for i := range slots {
		if at := slots[i]; at.by != 0 && at.has != 0 && !smallAt(s, at.has-1) {
			toFirst(t, slots, s, at.has-1, 2, notBy(2))
		}
	}
	for i, at := range slots {
		if at.by != 0 && smallAt(s, at.has) {
			slots[i] = slot{}
		}
	}
	for i := len(slots) - 1; i >= 0; i-- {
		if at := slots[i]; at.by != 0 && at.has != 0 && smallAt(s, at.has-1) {
			toLast(t, slots, s, at.has-1, 3, notBy(3))
		}
	}
	var row []int
	for i, at := range slots {
		if at.by == 0 {
			t.Fatalf("by three steps %d of %v, first %v, has nothing", i, s, first)
		}
		row = append(row, at.has)
	}
	return row
}

// check holds Sort against an answer.
func check(t *testing.T, s []int, k int, first, want []int) {
	t.Helper()
	if got, ok := Sort(s, k, first); !ok || !slices.Equal(got, want) {
		t.Errorf("Sort(%v, %d, %v) is %v, %t, not %v", s, k, first, got, ok, want)
	}
}

// refuse holds Sort against nil and false.
func refuse(t *testing.T, s []int, k int, first []int) {
	t.Helper()
	if got, ok := Sort(s, k, first); ok || got != nil {
		t.Errorf("Sort(%v, %d, %v) is %v, %t", s, k, first, got, ok)
	}
}

// checkAll holds Sort of a row, with its First in every order, against the chapter's steps.
func checkAll(t *testing.T, s []int, ks ...int) {
	t.Helper()
	orders(firstOf(s), func(first []int) {
		want := sortInWords(t, s, first)
		for _, k := range ks {
			check(t, s, k, first, want)
		}
	})
}

// P12.1: all short rows of small numbers, each with its First places in every order, k just above the greatest
// number and further above it.
func TestAllShortRows(t *testing.T) {
	for _, c := range []struct{ longest, below int }{{11, 2}, {8, 3}, {6, 4}, {5, 5}} {
		rows(c.longest, c.below, func(s []int) {
			checkAll(t, s, above(s), above(s)+1, above(s)+7)
		})
	}
}

// P12.1: by hand; the first one is the chapter's example.
func TestSomeRows(t *testing.T) {
	for _, c := range []struct {
		s           []int
		k           int
		first, want []int
	}{
		{[]int{1, 0}, 2, nil, []int{1, 0}},
		{nil, 0, nil, nil},
		{nil, 1, nil, nil},
		{nil, most, nil, nil},
		{[]int{}, 0, []int{}, nil},
		{[]int{0}, 1, nil, []int{0}},
		{[]int{0}, most, nil, []int{0}},
		{[]int{5}, 6, nil, []int{0}},
		{[]int{most - 1}, most, nil, []int{0}},
		{[]int{0, 0, 0}, 1, nil, []int{2, 1, 0}},
		{[]int{7, 7, 7}, 8, nil, []int{2, 1, 0}},
		{[]int{0, 1, 2}, 3, nil, []int{0, 1, 2}},
		{[]int{2, 1, 0}, 3, nil, []int{2, 1, 0}},
		{[]int{0, 0, 1}, 2, nil, []int{0, 1, 2}},
		{[]int{1, 0, 1}, 2, []int{1}, []int{1, 2, 0}},
		{[]int{1, 0, 0, 2, 1}, 3, []int{1}, []int{1, 2, 4, 0, 3}},
		{[]int{1, 0, 1, 0, 1}, 2, []int{3, 1}, []int{3, 1, 4, 2, 0}},
		{[]int{1, 0, 1, 0, 1}, 2, []int{1, 3}, []int{3, 1, 4, 0, 2}},
		// banana: ana ahead of anana, and the other way round.
		{[]int{1, 0, 2, 0, 2, 0}, 3, []int{3, 1}, []int{5, 3, 1, 0, 4, 2}},
		{[]int{1, 0, 2, 0, 2, 0}, 3, []int{1, 3}, []int{5, 3, 1, 0, 4, 2}},
		// mississippi: its First in order, and not.
		{[]int{1, 0, 3, 3, 0, 3, 3, 0, 2, 2, 0}, 4, []int{7, 4, 1}, []int{10, 7, 4, 1, 0, 9, 8, 6, 3, 5, 2}},
		{[]int{1, 0, 3, 3, 0, 3, 3, 0, 2, 2, 0}, 4, []int{1, 4, 7}, []int{10, 7, 1, 4, 0, 9, 8, 3, 6, 2, 5}},
	} {
		check(t, c.s, c.k, c.first, c.want)
		if want := sortInWords(t, c.s, c.first); !slices.Equal(want, c.want) {
			t.Errorf("by the steps %v, first %v, is %v, not %v", c.s, c.first, want, c.want)
		}
	}
}

// P12.1: rows that rise, that fall, and those of one number have no First place at all.
func TestOneWay(t *testing.T) {
	for _, n := range []int{1, 2, 3, 10, 100, 1000} {
		for _, from := range []int{0, 1, 1000, most - n} {
			rise, fall, same := make([]int, n), make([]int, n), make([]int, n)
			for i := range n {
				rise[i], fall[i], same[i] = from+i, from+n-1-i, from
			}
			up := counted(n)
			down := slices.Clone(up)
			slices.Reverse(down)
			for _, k := range []int{from + n, most} {
				check(t, rise, k, nil, up)
				check(t, fall, k, nil, down)
				check(t, same, k, nil, down)
				for _, place := range []int{0, n - 1, n} {
					refuse(t, rise, k, []int{place})
					refuse(t, fall, k, []int{place})
					refuse(t, same, k, []int{place})
				}
			}
		}
	}
}

// P12.1: rises and falls with runs of one number within, and a place at their foot that begins small ones, or none.
func TestHills(t *testing.T) {
	for _, n := range []int{1, 2, 5, 30} {
		low, middle, high := slices.Repeat([]int{1}, n), slices.Repeat([]int{2}, n), slices.Repeat([]int{3}, n)
		for _, parts := range [][][]int{
			{low, middle, high}, {high, middle, low}, {low, high, middle}, {high, low, middle}, {middle, low, high},
			{low, middle, low, middle}, {middle, low, middle, low, middle}, {high, low, high, middle, high, low, high},
			{low, high, low, high, low, high, low}, {high, middle, low, middle, high, middle, low, middle, high},
		} {
			s := slices.Concat(parts...)
			checkAll(t, s, 4, 5, 300)
		}
	}
}

// P12.1: the greatest k, and such as are far above the greatest number.
func TestKFarAbove(t *testing.T) {
	for _, s := range [][]int{
		nil, {0}, {1, 0}, {0, 1}, {1, 0, 1}, {2, 1, 2, 1, 2, 0, 1}, {most - 1, 0, most - 1, most - 2, most - 1},
		{most - 1, most - 2, most - 1, most - 2, most - 1}, {most / 2, 0, 0, most - 1, 1, 1, most / 2},
	} {
		checkAll(t, s, above(s), max(above(s), most-1), most)
	}
}

// P12.1: no numbers, nil or empty, and any k that may be: nothing, but no refusal.
func TestNoNumbers(t *testing.T) {
	for _, none := range [][]int{nil, {}, make([]int, 0, 4), []int{1, 0, 1}[:0], []int{1, 0, 1}[3:]} {
		for _, first := range [][]int{nil, {}, make([]int, 0, 4), []int{1}[:0]} {
			for _, k := range []int{0, 1, 2, 256, most - 1, most} {
				if got, ok := Sort(none, k, first); !ok || len(got) != 0 {
					t.Errorf("Sort of no numbers, k %d, is %v, %t", k, got, ok)
				}
			}
		}
		for _, first := range [][]int{{0}, {1}, {-1}, {0, 0}, {math.MinInt}, {math.MaxInt}} {
			refuse(t, none, 0, first)
			refuse(t, none, 3, first)
		}
	}
}

// P12.1, W5: a row without First places takes a nil list and an empty one alike.
func TestNilFirst(t *testing.T) {
	for _, s := range [][]int{{0}, {1, 0}, {0, 1}, {3, 3, 3}, {0, 1, 1, 2, 2, 1, 0}} {
		want := sortInWords(t, s, nil)
		for _, first := range [][]int{nil, {}, make([]int, 0, 4), []int{1, 2}[1:1]} {
			check(t, s, 4, first, want)
		}
	}
}

// P12.1: k that may not be is refused, whatever the rest is.
func TestNoSuchK(t *testing.T) {
	for _, k := range []int{
		-1, -2, -most, math.MinInt, math.MinInt + 1, math.MinInt32, most + 1, most * 2, 1 << 31, 1 << 32, 1<<32 + 2,
		math.MaxInt - 1, math.MaxInt,
	} {
		for _, s := range [][]int{nil, {}, {0}, {1, 0}, {1, 0, 1}, {1, 0, 1, 0, 1}, {k}, {-1}} {
			refuse(t, s, k, firstOf(s))
			refuse(t, s, k, nil)
			refuse(t, s, k, []int{1})
		}
	}
}

// P12.1: a number that is below 0, or k or more, is refused, wherever it stands, with the First places of just that
// row.
func TestNoSuchNumber(t *testing.T) {
	for _, s := range [][]int{{0}, {1, 0}, {0, 1}, {1, 0, 1}, {1, 0, 1, 0, 1}, {2, 0, 0, 1, 1}} {
		k := 3
		for _, none := range []int{
			-1, -2, k, k + 1, most, math.MinInt, math.MaxInt, 1 << 32, 1<<32 + 1, -1 << 32, math.MinInt32,
		} {
			for at := range s {
				bad := slices.Clone(s)
				bad[at] = none
				orders(firstOf(bad), func(first []int) { refuse(t, bad, k, first) })
				refuse(t, bad, k, firstOf(s))
			}
		}
		// k that is not above the greatest number.
		for less := range above(s) {
			refuse(t, s, less, firstOf(s))
		}
	}
	refuse(t, []int{0}, 0, nil)
	refuse(t, []int{most}, most, nil)
	refuse(t, []int{0, most - 1}, most-1, nil)
}

// with is a list with a number more at a place.
func with(list []int, at, number int) []int {
	return slices.Insert(slices.Clone(list), at, number)
}

// without is a list but for what it has at a place.
func without(list []int, at int) []int {
	return slices.Delete(slices.Clone(list), at, at+1)
}

// wrongNumbers are the places of a row that are none of its First, and numbers that are no place of it.
func wrongNumbers(s []int) []int {
	first := firstOf(s)
	wrong := []int{-1, -2, len(s), len(s) + 1, 2*len(s) + 1, math.MinInt, math.MaxInt, 1 << 32, -1 << 32}
	for i := range s {
		if !slices.Contains(first, i) {
			wrong = append(wrong, i)
		}
	}
	for _, place := range first {
		wrong = append(wrong, place+1<<32, place-1<<32)
	}
	return wrong
}

// P12.1: first that is not the First places, each once: one missing, one twice, one that is none, and one more.
func TestNotFirst(t *testing.T) {
	for _, s := range [][]int{
		{1, 0, 1}, {1, 0, 1, 0, 1}, {1, 0, 0, 2, 1}, {1, 0, 2, 0, 2, 0}, {1, 0, 3, 3, 0, 3, 3, 0, 2, 2, 0},
		{0, 1, 2}, {2, 1, 0}, {0}, {1, 1, 1}, {0, 0, 1, 0, 0, 1},
	} {
		orders(firstOf(s), func(first []int) {
			for _, wrong := range wrongNumbers(s) {
				for at := range first {
					refuse(t, s, 4, with(without(first, at), at, wrong))
				}
				for at := range len(first) + 1 {
					refuse(t, s, 4, with(first, at, wrong))
				}
			}
			for at, place := range first {
				refuse(t, s, 4, without(first, at))
				for other := range len(first) + 1 {
					refuse(t, s, 4, with(first, other, place))
				}
				// As many as there are, one of them in another one's stead.
				for other := range first {
					if other != at {
						refuse(t, s, 4, with(without(first, other), other, place))
					}
				}
			}
			if len(first) > 0 {
				refuse(t, s, 4, nil)
				refuse(t, s, 4, slices.Concat(first, first))
			}
		})
	}
}

// P12.1: of all short rows and all short lists, just those are taken that are the First places in some order.
func TestAllShortLists(t *testing.T) {
	rows(5, 3, func(s []int) {
		wanted := firstOf(s)
		rows(3, 6, func(list []int) {
			rising := slices.Clone(list)
			slices.Sort(rising)
			if slices.Equal(rising, wanted) {
				check(t, s, 3, list, sortInWords(t, s, list))
			} else {
				refuse(t, s, 3, list)
			}
		})
	})
}

// checkOnce holds an answer against what follows: each place once, the numbers at the places never falling.
func checkOnce(t *testing.T, s []int, k int, first []int) []int {
	t.Helper()
	got, ok := Sort(s, k, first)
	if !ok || len(got) != len(s) {
		t.Fatalf("of %d numbers Sort answers %d, %t", len(s), len(got), ok)
	}
	rising := slices.Clone(got)
	slices.Sort(rising)
	for i, place := range rising {
		if i != place {
			t.Fatalf("of %d numbers place %d comes not once", len(s), min(i, place))
		}
	}
	for i := 1; i < len(got); i++ {
		if s[got[i-1]] > s[got[i]] {
			t.Fatalf("of %d numbers those at the places fall at %d", len(s), i)
		}
	}
	return got
}

// P12.2: each place comes once, the numbers at the places never falling, whatever the order of first.
func TestEachPlaceOnce(t *testing.T) {
	for _, c := range []struct{ longest, below int }{{10, 2}, {7, 3}, {5, 5}} {
		rows(c.longest, c.below, func(s []int) {
			orders(firstOf(s), func(first []int) { checkOnce(t, s, c.below, first) })
		})
	}
}

// P12.2: if first is in order of its endings, all is in order of endings.
func TestOrderOfEndings(t *testing.T) {
	for _, c := range []struct{ longest, below int }{{13, 2}, {8, 3}, {6, 4}, {5, 5}} {
		rows(c.longest, c.below, func(s []int) {
			check(t, s, c.below, byEndings(s, firstOf(s)), byEndings(s, counted(len(s))))
		})
	}
}

// mixed hands over numbers of no plain rule, 0 to below - 1, the same ones each time.
func mixed() func(below int) int {
	state := uint64(12)
	return func(below int) int {
		state = state*6364136223846793005 + 1442695040888963407
		return int(state>>33) % below
	}
}

// shuffled is a list in an order of no plain rule.
func shuffled(list []int, number func(below int) int) []int {
	row := slices.Clone(list)
	for i := len(row) - 1; i > 0; i-- {
		j := number(i + 1)
		row[i], row[j] = row[j], row[i]
	}
	return row
}

// P12.1, P12.2: rows of some hundred numbers of few and of many kinds, those that repeat among them.
func TestLongerRows(t *testing.T) {
	number := mixed()
	for _, k := range []int{1, 2, 3, 10, 256, 5000} {
		for _, n := range []int{2, 17, 60, 200} {
			for _, again := range []int{n, 1, 2, 7} {
				s := make([]int, n)
				for i := range s {
					if i < again {
						s[i] = number(k)
					} else {
						s[i] = s[i-again]
					}
				}
				first := firstOf(s)
				check(t, s, k, byEndings(s, first), byEndings(s, counted(n)))
				falling := slices.Clone(first)
				slices.Reverse(falling)
				for _, order := range [][]int{first, falling, shuffled(first, number), shuffled(first, number)} {
					check(t, s, k, order, sortInWords(t, s, order))
				}
			}
		}
	}
}

// inOrder tells whether a row of all places is in order of endings, by each one's number and how the endings behind
// it stand.
func inOrder(s, row []int) bool {
	rank := make([]int, len(s)+1)
	rank[len(s)] = -1
	for i, place := range row {
		rank[place] = i
	}
	for i := 1; i < len(row); i++ {
		one, next := row[i-1], row[i]
		if s[one] > s[next] || s[one] == s[next] && rank[one+1] > rank[next+1] {
			return false
		}
	}
	return true
}

// P12.1, P12.2: many numbers; the chapter names no bound, so rows of more than MaxText numbers are sorted, too.
func TestManyNumbers(t *testing.T) {
	number := mixed()
	for _, c := range []struct{ n, k int }{
		{api.MaxText, 2}, {api.MaxText, 256}, {api.MaxText, most}, {api.MaxText + 1, 3}, {4 * api.MaxText, 1000},
	} {
		s := make([]int, c.n)
		for i := range s {
			s[i] = number(c.k)
		}
		// By chapter 11's words in one reading: the words one by one would take too long here.
		var first []int
		for i, later := c.n-2, false; i >= 0; i-- {
			small := s[i] < s[i+1] || s[i] == s[i+1] && later
			if later && !small {
				first = append(first, i+1)
			}
			later = small
		}
		if !inOrder(s, checkOnce(t, s, c.k, byEndings(s, first))) {
			t.Errorf("%d numbers of %d kinds are not in order", c.n, c.k)
		}
		checkOnce(t, s, c.k, first)
		checkOnce(t, s, c.k, shuffled(first, number))
		if len(first) == 0 {
			t.Fatalf("%d numbers of %d kinds have no First", c.n, c.k)
		}
		if got, ok := Sort(s, c.k, first[1:]); ok || got != nil {
			t.Errorf("%d numbers of %d kinds are taken without one First", c.n, c.k)
		}
	}
}

// P12.1, P12.2: one number MaxText times, and two by turns, both of which hang on one another to the end.
func TestLongRuns(t *testing.T) {
	n := api.MaxText
	run := slices.Repeat([]int{3}, n)
	if !inOrder(run, checkOnce(t, run, 4, nil)) {
		t.Errorf("one number is not in order")
	}
	run[0], run[n-1] = 4, 4
	if !inOrder(run, checkOnce(t, run, 5, []int{1})) {
		t.Errorf("one number between greater ones is not in order")
	}
	turns := slices.Repeat([]int{1, 0}, n/2)
	var first []int
	for i := n - 3; i > 0; i -= 2 {
		first = append(first, i)
	}
	if !inOrder(turns, checkOnce(t, turns, 2, first)) {
		t.Errorf("two numbers by turns are not in order")
	}
	slices.Reverse(first)
	checkOnce(t, turns, 2, first)
}

// memoryCases are rows and their First in some order, whose memory is held against that of answers.
func memoryCases() [][2][]int {
	return [][2][]int{
		{{}, {}}, {{0}, {}}, {{1, 0}, {}}, {{0, 1, 2, 3}, {}}, {{3, 3, 3}, {}}, {{1, 0, 1}, {1}},
		{{1, 0, 0, 2, 1}, {1}}, {{1, 0, 1, 0, 1}, {3, 1}}, {{1, 0, 1, 0, 1}, {1, 3}},
		{{1, 0, 3, 3, 0, 3, 3, 0, 2, 2, 0}, {4, 7, 1}},
	}
}

// P12.2, W6: neither what is handed in nor the room around it is changed, or told of, be it refused or not.
func TestWhatIsHandedInStays(t *testing.T) {
	for _, around := range []int{0, 1, 3, -1, math.MaxInt, math.MinInt} {
		for _, c := range memoryCases() {
			for _, more := range [][]int{nil, {1}, {-1}, {99}} {
				list := slices.Concat(c[1], more)
				room := slices.Concat([]int{around, around}, c[0], []int{around}, list, []int{around, around})
				was := slices.Clone(room)
				s, first := room[2:2+len(c[0])], room[3+len(c[0]):3+len(c[0])+len(list)]
				if more == nil {
					check(t, s, 4, first, sortInWords(t, c[0], c[1]))
				} else {
					refuse(t, s, 4, first)
				}
				refuse(t, s, -1, first)
				if !slices.Equal(room, was) {
					t.Errorf("%v has become %v", was, room)
				}
			}
		}
	}
}

// P12.1, W6: first may be a piece of the row itself.
func TestFirstWithinTheRow(t *testing.T) {
	s := []int{1, 0, 3, 1, 3}
	was := slices.Clone(s)
	check(t, s, 4, s[2:4], sortInWords(t, was, []int{3, 1}))
	check(t, s, 4, s[3:5], sortInWords(t, was, []int{1, 3}))
	refuse(t, s, 4, s)
	if !slices.Equal(s, was) {
		t.Errorf("%v has become %v", was, s)
	}
}

// marked lays a number all over a list and the room behind it.
func marked(list []int, mark int) {
	list = list[:cap(list)]
	for i := range list {
		list[i] = mark
	}
}

// P12.2, W6: what is answered shares no memory with what is handed in, nor the room behind it, whichever of both is
// written over.
func TestAnswersAreNotTheArguments(t *testing.T) {
	for _, c := range memoryCases() {
		want := sortInWords(t, c[0], c[1])
		for _, spare := range []int{0, 16} {
			s := append(make([]int, 0, len(c[0])+spare), c[0]...)
			first := append(make([]int, 0, len(c[1])+spare), c[1]...)
			got, _ := Sort(s, 4, first)
			marked(got, -7)
			if slices.Contains(s[:cap(s)], -7) || slices.Contains(first[:cap(first)], -7) {
				t.Errorf("%v has become %v, %v with its answer", c, s, first)
			}
			got, _ = Sort(s, 4, first)
			marked(s, -7)
			marked(first, -7)
			if !slices.Equal(got, want) || slices.Contains(got[:cap(got)], -7) {
				t.Errorf("the answer of %v, and the room behind it, has become %v", c, got[:cap(got)])
			}
		}
	}
}

// P12.2, W6: no two answers share memory, nor the room behind them.
func TestAnswersShareNothing(t *testing.T) {
	for _, c := range memoryCases() {
		one, _ := Sort(c[0], 4, c[1])
		other, _ := Sort(c[0], 4, c[1])
		marked(one, -1)
		marked(other, -2)
		if slices.Contains(one[:cap(one)], -2) {
			t.Errorf("two answers of %v share memory", c)
		}
		// What an answer was written over with is not told of later.
		check(t, c[0], 4, c[1], sortInWords(t, c[0], c[1]))
	}
}

// W2, W7: what is answered stays, whatever is called later, and is answered again.
func TestAnswersStay(t *testing.T) {
	for _, c := range memoryCases() {
		want := sortInWords(t, c[0], c[1])
		got, _ := Sort(c[0], 4, c[1])
		for _, later := range memoryCases() {
			Sort(later[0], 4, later[1])
			Sort(later[0], 4, []int{0})
		}
		if !slices.Equal(got, want) {
			t.Errorf("the answer of %v has become %v", c, got)
		}
		check(t, c[0], 4, c[1], want)
	}
}

// FuzzInduce takes its numbers from bytes: those from 250 on stand for numbers below 0.
func FuzzInduce(f *testing.F) {
	f.Add([]byte{1, 0}, []byte{}, 2)
	f.Add([]byte{1, 0, 1, 0, 1}, []byte{3, 1}, 2)
	f.Add([]byte{1, 0, 1, 0, 1}, []byte{3, 3}, 2)
	f.Add([]byte{255, 0, 1}, []byte{1}, 2)
	f.Add([]byte{}, []byte{0}, -1)
	f.Fuzz(func(t *testing.T, b, o []byte, k int) {
		numbers := func(list []byte) []int {
			var row []int
			for _, v := range list[:min(len(list), 60)] {
				if v >= 250 {
					row = append(row, int(v)-256)
				} else {
					row = append(row, int(v))
				}
			}
			return row
		}
		s, list := numbers(b), numbers(o)
		rising := slices.Clone(list)
		slices.Sort(rising)
		fits := k >= 0 && k <= most && !slices.ContainsFunc(s, func(v int) bool { return v < 0 || v >= k })
		if fits && slices.Equal(rising, firstOf(s)) {
			check(t, s, k, list, sortInWords(t, s, list))
		} else {
			refuse(t, s, k, list)
		}
		// Rows that may be, with their First in an order by the list: the fuzzer seldom makes such.
		for i := range s {
			s[i] = (s[i] + 256) % 3
		}
		first := firstOf(s)
		for i, v := range list {
			if len(first) > 0 {
				at, other := i%len(first), (v+256)%len(first)
				first[at], first[other] = first[other], first[at]
			}
		}
		check(t, s, 3, first, sortInWords(t, s, first))
		check(t, s, 3, byEndings(s, first), byEndings(s, counted(len(s))))
	})
}
