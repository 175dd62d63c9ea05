package bucket

import (
	"math"
	"slices"
	"testing"
)

// most is the greatest k, by the chapter.
const most = 1048576

// rows hands over all rows of at most so many numbers, each from least to greatest.
func rows(longest, least, greatest int, each func([]int)) {
	row := make([]int, 0, longest)
	var lay func()
	lay = func() {
		each(row)
		if len(row) == longest {
			return
		}
		for v := least; v <= greatest; v++ {
			row = append(row, v)
			lay()
			row = row[:len(row)-1]
		}
	}
	lay()
}

// oftenIn is how often a number stands in a list.
func oftenIn(list []int, number int) int {
	often := 0
	for _, v := range list {
		if v == number {
			often++
		}
	}
	return often
}

// countsInWords is what Counts is to answer, by the chapter's words alone.
func countsInWords(keys []int, k int) ([]int, bool) {
	if k < 0 || k > most {
		return nil, false
	}
	var counts []int
	found := 0
	for number := range k {
		often := oftenIn(keys, number)
		counts = append(counts, often)
		found += often
	}
	// A key that is none of the numbers was found with none of them.
	if found != len(keys) {
		return nil, false
	}
	return counts, true
}

// startsInWords is what Starts is to answer.
func startsInWords(counts []int) []int {
	var starts []int
	for i := range counts {
		together := 0
		for _, count := range counts[:i] {
			together += count
		}
		starts = append(starts, together)
	}
	return starts
}

// passInWords is what Pass is to answer: number by number, what order has of that key.
func passInWords(order, keys []int, k int) ([]int, bool) {
	if _, ok := countsInWords(keys, k); !ok {
		return nil, false
	}
	for _, number := range order {
		if number < 0 || number >= len(keys) {
			return nil, false
		}
	}
	var row []int
	for key := range k {
		for _, number := range order {
			if keys[number] == key {
				row = append(row, number)
			}
		}
	}
	return row, true
}

// same tells whether an answer is the one that it is to be; beside false it is to be nil.
func same(got, want []int, ok, wantOk bool) bool {
	return ok == wantOk && slices.Equal(got, want) && (ok || got == nil)
}

// checkCounts holds Counts against an answer, and Starts of it against the words.
func checkCounts(t *testing.T, keys []int, k int, want []int, wantOk bool) {
	t.Helper()
	got, ok := Counts(keys, k)
	if !same(got, want, ok, wantOk) {
		t.Errorf("Counts(%v, %d) is %v, %t, not %v, %t", keys, k, got, ok, want, wantOk)
	}
	if starts := Starts(got); !slices.Equal(starts, startsInWords(got)) {
		t.Errorf("Starts(%v) is %v, not %v", got, starts, startsInWords(got))
	}
}

// checkPass holds Pass against an answer.
func checkPass(t *testing.T, order, keys []int, k int, want []int, wantOk bool) {
	t.Helper()
	if got, ok := Pass(order, keys, k); !same(got, want, ok, wantOk) {
		t.Errorf("Pass(%v, %v, %d) is %v, %t, not %v, %t", order, keys, k, got, ok, want, wantOk)
	}
}

// P10.1: Counts of all short rows of small keys, such as are none of the numbers among them.
func TestCountsOfAllShortRows(t *testing.T) {
	for k := -2; k <= 5; k++ {
		rows(5, -1, 4, func(keys []int) {
			want, ok := countsInWords(keys, k)
			checkCounts(t, keys, k, want, ok)
		})
	}
}

// P10.1: Counts by hand.
func TestSomeCounts(t *testing.T) {
	for _, c := range []struct {
		keys []int
		k    int
		want []int
		ok   bool
	}{
		{nil, 0, nil, true},
		{[]int{}, 0, nil, true},
		{nil, 1, []int{0}, true},
		{[]int{}, 3, []int{0, 0, 0}, true},
		{[]int{0}, 1, []int{1}, true},
		{[]int{1, 0, 1}, 2, []int{1, 2}, true},
		{[]int{1, 0, 1}, 5, []int{1, 2, 0, 0, 0}, true},
		{[]int{4, 4, 4, 0, 4}, 5, []int{1, 0, 0, 0, 4}, true},
		{[]int{0}, 0, nil, false},
		{[]int{2}, 2, nil, false},
		{[]int{0, 1, 2}, 2, nil, false},
		{[]int{2, 1, 0}, 2, nil, false},
		{[]int{-1}, 2, nil, false},
		{[]int{0, -1}, 2, nil, false},
		{[]int{0}, -1, nil, false},
		{[]int{-1}, -1, nil, false},
		{[]int{-2}, -1, nil, false},
		{[]int{math.MaxInt}, 2, nil, false},
		{[]int{math.MinInt}, 2, nil, false},
		{[]int{0, 1, math.MaxInt}, 2, nil, false},
		{[]int{0, 1, math.MinInt}, 2, nil, false},
		{[]int{1 << 32}, 2, nil, false},
		{[]int{-1 << 32}, 2, nil, false},
	} {
		checkCounts(t, c.keys, c.k, c.want, c.ok)
	}
}

// noKs are numbers that k may not be.
func noKs() []int {
	return []int{-1, -2, -most, math.MinInt, math.MinInt + 1, math.MinInt32, most + 1, most * 2, 1 << 31, 1 << 32, 1<<32 + 2, math.MaxInt - 1, math.MaxInt}
}

// P10.1: k that may not be is refused, whatever the keys are.
func TestNoSuchK(t *testing.T) {
	for _, k := range noKs() {
		for _, keys := range [][]int{nil, {}, {0}, {1, 0, 1}, {k}, {-1}, {math.MaxInt}} {
			checkCounts(t, keys, k, nil, false)
			for _, order := range [][]int{nil, {}, {0}, {0, 0}, {-1}, {len(keys)}} {
				checkPass(t, order, keys, k, nil, false)
			}
		}
	}
}

// P10.1: the greatest k, and the one below it, at their own last keys.
func TestGreatestK(t *testing.T) {
	for _, k := range []int{most - 1, most} {
		keys := []int{k - 1, 0, k - 2, k - 1, 1, k - 1}
		got, ok := Counts(keys, k)
		if !ok || len(got) != k {
			t.Fatalf("Counts of k %d is %d counts, %t", k, len(got), ok)
		}
		starts := Starts(got)
		if len(starts) != k {
			t.Fatalf("Starts of k %d is %d numbers", k, len(starts))
		}
		for number, often := range got {
			want, ahead := 0, 2
			switch number {
			case 0:
				want, ahead = 1, 0
			case 1:
				want, ahead = 1, 1
			case k - 2:
				want = 1
			case k - 1:
				want, ahead = 3, 3
			}
			if often != want || starts[number] != ahead {
				t.Fatalf("k %d: %d stands %d times, behind %d", k, number, often, starts[number])
			}
		}
		checkPass(t, []int{0, 1, 2, 3, 4, 5}, keys, k, []int{1, 4, 2, 0, 3, 5}, true)
		for _, none := range []int{k, k + 1, -1, math.MaxInt, math.MinInt} {
			checkCounts(t, append(slices.Clone(keys), none), k, nil, false)
			checkPass(t, []int{0}, append(slices.Clone(keys), none), k, nil, false)
		}
	}
}

// P10.1: Starts of all short rows of counts, and by hand.
func TestStarts(t *testing.T) {
	rows(6, 0, 3, func(counts []int) {
		if got := Starts(counts); !slices.Equal(got, startsInWords(counts)) {
			t.Errorf("Starts(%v) is %v, not %v", counts, got, startsInWords(counts))
		}
	})
	for _, c := range []struct{ counts, want []int }{
		{nil, nil},
		{[]int{}, nil},
		{[]int{0}, []int{0}},
		{[]int{7}, []int{0}},
		{[]int{0, 0, 0}, []int{0, 0, 0}},
		{[]int{3, 0, 2, 5}, []int{0, 3, 3, 5}},
		{[]int{0, 4, 0, 0, 1}, []int{0, 0, 4, 4, 4}},
		{[]int{1, 1, 1, 1}, []int{0, 1, 2, 3}},
		{[]int{math.MaxInt32, math.MaxInt32, 2}, []int{0, math.MaxInt32, 2 * math.MaxInt32}},
		{[]int{math.MaxInt}, []int{0}},
		{[]int{math.MaxInt, 0, 0}, []int{0, math.MaxInt, math.MaxInt}},
		{[]int{math.MaxInt - 1, 1, math.MaxInt}, []int{0, math.MaxInt - 1, math.MaxInt}},
		{[]int{-1, 2, -3, 0}, []int{0, -1, 1, -2}},
		{[]int{math.MinInt, 1, math.MaxInt, 5}, []int{0, math.MinInt, math.MinInt + 1, 0}},
	} {
		if got := Starts(c.counts); !slices.Equal(got, c.want) {
			t.Errorf("Starts(%v) is %v, not %v", c.counts, got, c.want)
		}
	}
}

// P10.1: Starts takes as many counts as there are: it has no bound of its own.
func TestStartsOfManyCounts(t *testing.T) {
	counts := make([]int, most+2)
	for i := range counts {
		counts[i] = i % 3
	}
	starts := Starts(counts)
	if len(starts) != len(counts) {
		t.Fatalf("Starts is %d numbers", len(starts))
	}
	// Each three counts are 3 together.
	for i, start := range starts {
		if want := i/3*3 + []int{0, 0, 1}[i%3]; start != want {
			t.Fatalf("ahead of %d there are %d, not %d", i, start, want)
		}
	}
}

// P10.1: Pass of all short orders by all short rows of keys, with numbers and keys that are none.
func TestPassOfAllShortRows(t *testing.T) {
	for k := -1; k <= 3; k++ {
		rows(3, -1, 3, func(keys []int) {
			rows(3, -1, 3, func(order []int) {
				want, ok := passInWords(order, keys, k)
				checkPass(t, order, keys, k, want, ok)
			})
		})
	}
}

// P10.1: longer orders, which have all places, some of them, or some more than once.
func TestPassOfLongerOrders(t *testing.T) {
	for _, keys := range [][]int{{2, 1, 0}, {0, 0, 0}, {1, 0, 1}, {2, 0, 2}, {2, 2, 1}} {
		rows(7, 0, 2, func(order []int) {
			want, ok := passInWords(order, keys, 3)
			checkPass(t, order, keys, 3, want, ok)
		})
	}
	rows(7, 0, 2, func(keys []int) {
		for _, order := range [][]int{{0, 1, 2, 3, 4, 5, 6}, {6, 5, 4, 3, 2, 1, 0}, {3, 0, 6, 2, 5, 1, 4}, {6, 0, 6}, {5, 5, 5, 5, 5, 5, 5, 5, 5}} {
			want, ok := passInWords(order, keys, 3)
			checkPass(t, order, keys, 3, want, ok)
		}
	})
}

// P10.1: Pass by hand; the first one is the chapter's example.
func TestSomePasses(t *testing.T) {
	for _, c := range []struct {
		order, keys []int
		k           int
		want        []int
		ok          bool
	}{
		{[]int{0, 1, 2}, []int{1, 0, 1}, 2, []int{1, 0, 2}, true},
		{[]int{2, 1, 0}, []int{1, 0, 1}, 2, []int{1, 2, 0}, true},
		{[]int{0, 1, 2}, []int{1, 0, 1}, most, []int{1, 0, 2}, true},
		{nil, nil, 0, nil, true},
		{[]int{}, []int{}, 0, nil, true},
		{nil, []int{1, 0}, 2, nil, true},
		{[]int{}, []int{1, 0}, 2, nil, true},
		{nil, nil, most, nil, true},
		{[]int{1}, []int{1, 0}, 2, []int{1}, true},
		{[]int{0, 0, 0}, []int{4}, 5, []int{0, 0, 0}, true},
		{[]int{0, 1, 0, 1, 0}, []int{1, 0}, 2, []int{1, 1, 0, 0, 0}, true},
		{[]int{3, 3, 0}, []int{2, 0, 0, 1}, 3, []int{3, 3, 0}, true},
		{[]int{4, 1}, []int{0, 2, 0, 0, 1}, 3, []int{4, 1}, true},
		{[]int{1, 4}, []int{0, 2, 0, 0, 1}, 3, []int{4, 1}, true},
		{[]int{0}, nil, 0, nil, false},
		{[]int{0}, nil, 5, nil, false},
		{[]int{0, 3}, []int{1, 0, 1}, 2, nil, false},
		{[]int{3, 0}, []int{1, 0, 1}, 2, nil, false},
		{[]int{0, -1}, []int{1, 0, 1}, 2, nil, false},
		{[]int{math.MaxInt}, []int{1, 0, 1}, 2, nil, false},
		{[]int{math.MinInt}, []int{1, 0, 1}, 2, nil, false},
		{[]int{0, 1, 2, math.MaxInt}, []int{1, 0, 1}, 2, nil, false},
		{[]int{0, 1, 2, math.MinInt}, []int{1, 0, 1}, 2, nil, false},
		{[]int{1 << 32}, []int{1, 0, 1}, 2, nil, false},
		// A key that is none is refused though order has not its place.
		{nil, []int{2}, 2, nil, false},
		{nil, []int{-1}, 2, nil, false},
		{[]int{0}, []int{0, 2}, 2, nil, false},
		{[]int{0}, []int{0, -1}, 2, nil, false},
		{[]int{0}, []int{0, math.MaxInt}, 2, nil, false},
		{[]int{0}, []int{0, math.MinInt}, 2, nil, false},
		{[]int{1}, []int{0, 2}, 2, nil, false},
		{[]int{0}, []int{0}, 0, nil, false},
	} {
		checkPass(t, c.order, c.keys, c.k, c.want, c.ok)
	}
}

// counted is the numbers from 0 on, n of them.
func counted(n int) []int {
	numbers := make([]int, n)
	for i := range numbers {
		numbers[i] = i
	}
	return numbers
}

// lexically sorts a copy of order by the keys, the highest first; those of the same keys as they stood.
func lexically(order []int, keys ...[]int) []int {
	row := slices.Clone(order)
	slices.SortStableFunc(row, func(a, b int) int {
		for _, key := range keys {
			if key[a] != key[b] {
				return key[a] - key[b]
			}
		}
		return 0
	})
	return row
}

// passes passes by the keys, the last one first.
func passes(t *testing.T, order []int, k int, keys ...[]int) []int {
	t.Helper()
	for _, key := range slices.Backward(keys) {
		var ok bool
		if order, ok = Pass(order, key, k); !ok {
			t.Fatalf("Pass by %v is refused", key)
		}
	}
	return order
}

// P10.2: passes by the lower key, then by the higher one, sort by both: all pairs of short rows of keys.
func TestPassesSortByBoth(t *testing.T) {
	for n := range 5 {
		for _, order := range [][]int{counted(n), lexically(counted(n), []int{3, 2, 1, 0})} {
			rows(n, 0, 2, func(high []int) {
				rows(n, 0, 2, func(low []int) {
					if len(high) < n || len(low) < n {
						return
					}
					if got, want := passes(t, order, 3, high, low), lexically(order, high, low); !slices.Equal(got, want) {
						t.Errorf("%v by %v, then %v, is %v, not %v", order, high, low, got, want)
					}
				})
			})
		}
	}
}

// mixed hands over numbers of no plain rule, 0 to below - 1, the same ones each time.
func mixed() func(below int) int {
	state := uint64(10)
	return func(below int) int {
		state = state*6364136223846793005 + 1442695040888963407
		return int(state>>33) % below
	}
}

// P10.1, P10.2: many keys, few and many kinds of them, by one, two and three passes.
func TestManyKeys(t *testing.T) {
	number := mixed()
	for _, c := range []struct{ n, k int }{{100000, 256}, {100000, 2}, {100000, 1}, {100000, most}, {1000, 100001}, {1, most}} {
		var keys [3][]int
		for i := range keys {
			keys[i] = make([]int, c.n)
			for j := range keys[i] {
				keys[i][j] = number(c.k)
			}
		}
		order := make([]int, c.n+c.n/2)
		for i := range order {
			order[i] = number(c.n)
		}
		for _, some := range [][][]int{keys[:1], keys[:2], keys[:]} {
			for _, row := range [][]int{order, counted(c.n), order[:c.n/2]} {
				if !slices.Equal(passes(t, row, c.k, some...), lexically(row, some...)) {
					t.Errorf("%d of %d keys of %d kinds are not sorted by %d of these", len(row), c.n, c.k, len(some))
				}
			}
		}
		counts, ok := Counts(keys[0], c.k)
		for _, key := range keys[0] {
			counts[key]--
		}
		if !ok || slices.ContainsFunc(counts, func(left int) bool { return left != 0 }) {
			t.Errorf("Counts of %d keys of %d kinds is not told", c.n, c.k)
		}
	}
}

// W5: a nil list and an empty one are the same.
func TestNilIsEmpty(t *testing.T) {
	for _, none := range [][]int{nil, {}, make([]int, 0, 4)} {
		for _, k := range []int{0, 1, 3, most} {
			if got, ok := Counts(none, k); !ok || len(got) != k || oftenIn(got, 0) != k {
				t.Errorf("Counts of no keys and k %d is %d counts, %t", k, len(got), ok)
			}
			for _, keys := range [][]int{none, make([]int, min(k, 2))} {
				checkPass(t, none, keys, k, nil, true)
			}
		}
		if got := Starts(none); len(got) != 0 {
			t.Errorf("Starts of no counts is %v", got)
		}
	}
}

// P10.2, W6: neither what is handed in nor the room around it is changed, kept, or told of.
func TestWhatIsHandedInStays(t *testing.T) {
	for _, around := range []int{0, 1, 7, -1, math.MaxInt} {
		for _, keys := range [][]int{{}, {0}, {1, 0, 1}, {2, 2, 0, 1}, {0, 3, 0}, {1, -1}} {
			for _, order := range [][]int{{}, {0}, {0, 0, 0}, {1, 0}, {2, 0, 1}, {5}, {-1}} {
				room := slices.Concat([]int{around, around}, keys, []int{around}, order, []int{around, around})
				was := slices.Clone(room)
				k, o := room[2:2+len(keys)], room[3+len(keys):3+len(keys)+len(order)]
				want, ok := countsInWords(keys, 3)
				checkCounts(t, k, 3, want, ok)
				if got := Starts(o); !slices.Equal(got, startsInWords(order)) {
					t.Errorf("Starts(%v), amid %d, is %v", order, around, got)
				}
				want, ok = passInWords(order, keys, 3)
				checkPass(t, o, k, 3, want, ok)
				if !slices.Equal(room, was) {
					t.Errorf("%v has become %v", was, room)
				}
			}
		}
	}
}

// P10.1, W6: order and keys may be one list.
func TestOrderIsKeys(t *testing.T) {
	rows(5, 0, 4, func(list []int) {
		was := slices.Clone(list)
		want, ok := passInWords(was, was, 5)
		checkPass(t, list, list, 5, want, ok)
		if !slices.Equal(list, was) {
			t.Errorf("%v has become %v", was, list)
		}
	})
}

// answers are the lists that all calls answer of one order and keys, with k 5.
func answers(t *testing.T, order, keys []int) [][]int {
	t.Helper()
	counts, ok := Counts(keys, 5)
	row, also := Pass(order, keys, 5)
	if !ok || !also {
		t.Fatalf("of %v and %v nothing is answered", order, keys)
	}
	return [][]int{counts, Starts(keys), row}
}

// inWords are the answers that these are to be.
func inWords(order, keys []int) [][]int {
	counts, _ := countsInWords(keys, 5)
	row, _ := passInWords(order, keys, 5)
	return [][]int{counts, startsInWords(keys), row}
}

// memoryCases are orders and keys whose answers' memory is held against that of others: such as are their own
// answer among them.
func memoryCases() [][2][]int {
	return [][2][]int{
		{{0}, {0}}, {{0, 1, 2}, {1, 0, 1}}, {{0, 1, 2}, {0, 1, 2}}, {{2, 2}, {0, 0, 0, 4}}, {{}, {1}}, {{}, {}},
		{{0, 0, 0, 0, 0}, {0, 0, 0, 0, 0}}, {{4, 3, 2, 1, 0}, {4, 3, 2, 1, 0}}, {{1, 0, 1, 0, 1, 0, 1}, {3, 2}},
	}
}

// marked lays a number all over a list and the room behind it.
func marked(list []int, mark int) {
	list = list[:cap(list)]
	for i := range list {
		list[i] = mark
	}
}

// P10.2, W6: what is answered shares no memory with what is handed in, nor the room behind it, whichever of both
// is written over.
func TestAnswersAreNotTheArguments(t *testing.T) {
	for _, c := range memoryCases() {
		for _, spare := range []int{0, 8} {
			order := append(make([]int, 0, len(c[0])+spare), c[0]...)
			keys := append(make([]int, 0, len(c[1])+spare), c[1]...)
			for _, list := range answers(t, order, keys) {
				marked(list, -7)
			}
			if slices.Contains(order[:cap(order)], -7) || slices.Contains(keys[:cap(keys)], -7) {
				t.Errorf("%v has become %v, %v with its answers", c, order, keys)
			}
			lists := answers(t, order, keys)
			marked(order, -7)
			marked(keys, -7)
			for i, list := range lists {
				if !slices.Equal(list, inWords(c[0], c[1])[i]) || slices.Contains(list[:cap(list)], -7) {
					t.Errorf("of %v answer %d, and the room behind it, has become %v", c, i, list[:cap(list)])
				}
			}
		}
	}
}

// P10.2, W6: no two answers share memory, nor the room behind them.
func TestAnswersShareNothing(t *testing.T) {
	for _, c := range memoryCases() {
		lists := slices.Concat(answers(t, c[0], c[1]), answers(t, c[0], c[1]))
		for i, list := range lists {
			marked(list, -1-i)
		}
		for i, list := range lists {
			if oftenIn(list[:cap(list)], -1-i) != cap(list) {
				t.Errorf("of %v answer %d shares memory with another one", c, i)
			}
		}
	}
}

// W7: what is answered stays, whatever is called later.
func TestAnswersStay(t *testing.T) {
	for _, c := range memoryCases() {
		lists := answers(t, c[0], c[1])
		for _, later := range memoryCases() {
			answers(t, later[0], later[1])
		}
		Counts([]int{9}, 5)
		Pass([]int{9}, []int{1}, 5)
		for i, want := range inWords(c[0], c[1]) {
			if !slices.Equal(lists[i], want) {
				t.Errorf("of %v answer %d has become %v", c, i, lists[i])
			}
		}
	}
}

// FuzzBucket takes its numbers from bytes: those from 250 on stand for numbers below 0.
func FuzzBucket(f *testing.F) {
	f.Add([]byte{0, 1, 2}, []byte{1, 0, 1}, 2)
	f.Add([]byte{2, 1, 0, 0}, []byte{3, 0, 3}, 4)
	f.Add([]byte{255}, []byte{255, 0}, 1)
	f.Add([]byte{}, []byte{}, 0)
	f.Add([]byte{7}, []byte{0, 1, 2, 3, 4, 5, 6, 7}, -1)
	f.Fuzz(func(t *testing.T, o, ks []byte, k int) {
		numbers := func(list []byte) []int {
			var row []int
			for _, b := range list[:min(len(list), 60)] {
				if b >= 250 {
					row = append(row, int(b)-256)
				} else {
					row = append(row, int(b))
				}
			}
			return row
		}
		order, keys := numbers(o), numbers(ks)
		if k > 1000 && k <= most {
			k %= 1000
		}
		want, ok := countsInWords(keys, k)
		checkCounts(t, keys, k, want, ok)
		want, ok = passInWords(order, keys, k)
		checkPass(t, order, keys, k, want, ok)
		if got := Starts(order); !slices.Equal(got, startsInWords(order)) {
			t.Errorf("Starts(%v) is %v", order, got)
		}
		// Places that are all there, and keys that all are: the fuzzer seldom makes such.
		for i := range order {
			order[i] = (order[i] + 256) % max(len(keys), 1)
		}
		for i := range keys {
			keys[i] = (keys[i] + 256) % 3
		}
		want, ok = passInWords(order, keys, 3)
		checkPass(t, order, keys, 3, want, ok)
	})
}
