package double

import (
	"math"
	"slices"
	"testing"

	"whorl/api"
)

// firstOf is the first h numbers of an ending, all of it if it has fewer.
func firstOf(s []int, place, h int) []int {
	return s[place:][:min(h, len(s)-place)]
}

// ranksInWords is what Ranks is to answer, by the chapter's words alone.
func ranksInWords(s []int, h int) []int {
	ranks := make([]int, len(s))
	for i := range s {
		for j := range s {
			if slices.Compare(firstOf(s, j, h), firstOf(s, i, h)) < 0 {
				ranks[i]++
			}
		}
	}
	return ranks
}

// placesIn is of each place where it stands in an order.
func placesIn(order []int) []int {
	at := make([]int, len(order))
	for i, place := range order {
		at[place] = i
	}
	return at
}

// checkRanks holds Ranks against an answer.
func checkRanks(t *testing.T, s []int, h int, want []int) {
	t.Helper()
	if got := Ranks(s, h); !slices.Equal(got, want) {
		t.Errorf("Ranks(%v, %d) is %v, not %v", s, h, got, want)
	}
}

// checkAllRanks holds Ranks of a row against the words, for every h from 0 to beyond the length.
func checkAllRanks(t *testing.T, s []int) {
	t.Helper()
	for h := range len(s) + 3 {
		checkRanks(t, s, h, ranksInWords(s, h))
	}
}

// beyond are numbers that no row is as long as.
func beyond() []int {
	return []int{
		api.MaxText, api.MaxText + 1, most, math.MaxInt32, 1 << 31, 1<<32 - 1, 1 << 32, 1<<32 + 1, 1 << 50, 1 << 62,
		1<<62 + 1, math.MaxInt - 1, math.MaxInt,
	}
}

// P15.1: all short rows of small numbers, and every h.
func TestRanksOfAllShortRows(t *testing.T) {
	for _, c := range []struct{ longest, below int }{{10, 2}, {7, 3}, {5, 4}} {
		rows(c.longest, c.below, func(s []int) { checkAllRanks(t, s) })
	}
}

// P15.1: by hand.
func TestSomeRanks(t *testing.T) {
	for _, c := range []struct {
		s    []int
		h    int
		want []int
	}{
		{nil, 0, nil},
		{nil, 1, nil},
		{nil, math.MaxInt, nil},
		{[]int{5}, 0, []int{0}},
		{[]int{5}, 1, []int{0}},
		{[]int{5}, 2, []int{0}},
		{[]int{5, 5}, 1, []int{0, 0}},
		{[]int{5, 5}, 2, []int{1, 0}},
		{[]int{1, 0, 1}, 0, []int{0, 0, 0}},
		{[]int{1, 0, 1}, 1, []int{1, 0, 1}},
		{[]int{1, 0, 1}, 2, []int{2, 0, 1}},
		{[]int{1, 0, 1}, 3, []int{2, 0, 1}},
		{[]int{7, 7, 7, 7}, 1, []int{0, 0, 0, 0}},
		{[]int{7, 7, 7, 7}, 2, []int{1, 1, 1, 0}},
		{[]int{7, 7, 7, 7}, 3, []int{2, 2, 1, 0}},
		{[]int{7, 7, 7, 7}, 4, []int{3, 2, 1, 0}},
		{[]int{1, 0, 2, 0, 2, 0}, 1, []int{3, 0, 4, 0, 4, 0}},
		{[]int{1, 0, 2, 0, 2, 0}, 2, []int{3, 1, 4, 1, 4, 0}},
		{[]int{1, 0, 2, 0, 2, 0}, 3, []int{3, 1, 5, 1, 4, 0}},
		{[]int{1, 0, 2, 0, 2, 0}, 4, []int{3, 2, 5, 1, 4, 0}},
		{[]int{math.MaxInt, math.MinInt, math.MaxInt, math.MinInt}, 1, []int{2, 0, 2, 0}},
		{[]int{math.MaxInt, math.MinInt, math.MaxInt, math.MinInt}, 2, []int{2, 1, 2, 0}},
		{[]int{math.MaxInt, math.MinInt, math.MaxInt, math.MinInt}, 3, []int{3, 1, 2, 0}},
	} {
		checkRanks(t, c.s, c.h, c.want)
	}
}

// P15.1: numbers of every size, those below 0, the least and the greatest there are among them.
func TestRanksOfEverySize(t *testing.T) {
	sizes := []int{
		math.MinInt, math.MinInt + 1, -1 << 32, math.MinInt32, -1, 0, 1, most - 1, most, most + 1, math.MaxInt32, 1 << 32,
		1<<32 + 1, math.MaxInt - 1, math.MaxInt,
	}
	for _, one := range sizes {
		checkAllRanks(t, []int{one})
		for _, other := range sizes {
			rows(5, 2, func(s []int) {
				far := slices.Clone(s)
				for i, v := range s {
					far[i] = []int{one, other}[v]
				}
				checkAllRanks(t, far)
			})
		}
	}
	checkAllRanks(t, sizes)
	turned := slices.Clone(sizes)
	slices.Reverse(turned)
	checkAllRanks(t, turned)
	checkAllRanks(t, slices.Concat(turned, sizes, turned))
}

// P15.1: it is which number is less that tells, not how much less.
func TestRanksHangOnLess(t *testing.T) {
	number := mixed()
	sizes := []int{math.MinInt, -7, 0, math.MaxInt32, math.MaxInt}
	for range 100 {
		n := 1 + number(60)
		s := mixedRow(number, n, len(sizes), 1+number(n))
		far := make([]int, n)
		for i, v := range s {
			far[i] = sizes[v]
		}
		for h := range n + 2 {
			checkRanks(t, far, h, Ranks(s, h))
		}
	}
}

// P15.1: rows of some more numbers, those that repeat among them, and every h: powers of 2, those between, the length,
// one below it and one above it.
func TestRanksOfLongerRows(t *testing.T) {
	number := mixed()
	for _, k := range []int{1, 2, 3, 50} {
		for _, n := range []int{15, 16, 17, 40, 65} {
			for _, again := range []int{1, 2, 3, 7, n/2 + 1, n} {
				checkAllRanks(t, mixedRow(number, n, k, again))
			}
		}
	}
	for _, text := range grownTexts(50) {
		checkAllRanks(t, asNumbers(text))
	}
}

// P15.1: an h below 0 is nothing, whatever the numbers are.
func TestRanksBelowNought(t *testing.T) {
	long := make([]int, api.MaxText+1)
	for _, h := range []int{-1, -2, -3, -api.MaxText, math.MinInt32, -1 << 32, math.MinInt, math.MinInt + 1} {
		for _, s := range [][]int{nil, {}, {0}, {-1}, {1, 0}, {1, 0, 1}, {5, 5, 5, 5}, long[1:], long} {
			if got := Ranks(s, h); len(got) != 0 {
				t.Errorf("Ranks of %d numbers, h %d, is %d numbers", len(s), h, len(got))
			}
		}
	}
}

// P15.1: more than MaxText numbers are nothing, by any h, and MaxText of them are not.
func TestRanksOfTooMany(t *testing.T) {
	hs := append([]int{0, 1, 2, 3, 1000, api.MaxText - 1}, beyond()...)
	for _, more := range []int{1, 2, 1000, api.MaxText} {
		long := make([]int, api.MaxText+more)
		for _, h := range hs {
			if got := Ranks(long, h); len(got) != 0 {
				t.Errorf("Ranks of %d numbers, h %d, is %d numbers", len(long), h, len(got))
			}
		}
	}
	for _, n := range []int{api.MaxText - 1, api.MaxText} {
		for _, h := range hs {
			if got := Ranks(counted(n), h); len(got) != n || h > 0 && !slices.Equal(got, counted(n)) {
				t.Errorf("Ranks of %d numbers, h %d, is %d numbers, or other ones", n, h, len(got))
			}
		}
	}
	// The room behind the end is none of the row.
	checkRanks(t, make([]int, 2, api.MaxText*2), 2, []int{1, 0})
}

// P15.1, W5: nothing, nil or empty, has no ranks.
func TestRanksOfNothing(t *testing.T) {
	for _, none := range [][]int{nil, {}, make([]int, 0, 4), []int{1, 0, 1}[:0], []int{1, 0, 1}[3:]} {
		for _, h := range append([]int{-1, 0, 1, 2}, beyond()...) {
			if got := Ranks(none, h); len(got) != 0 {
				t.Errorf("Ranks of nothing, h %d, is %v", h, got)
			}
		}
	}
}

// P15.2: by h 0 all Ranks are 0.
func TestRanksByNought(t *testing.T) {
	for _, n := range []int{0, 1, 2, 3, 100, api.MaxText - 1, api.MaxText} {
		for _, s := range [][]int{counted(n), fallen(n), slices.Repeat([]int{math.MinInt}, n)} {
			if got := Ranks(s, 0); !slices.Equal(got, make([]int, n)) {
				t.Errorf("Ranks of %d numbers, h 0, is not %d noughts", n, n)
			}
		}
	}
	rows(7, 3, func(s []int) { checkRanks(t, s, 0, make([]int, len(s))) })
}

// P15.2: by h of the length, or more, they are the places in the order.
func TestRanksByTheLength(t *testing.T) {
	check := func(s []int) {
		order, e := Ints(s, above(s))
		if e != api.OK {
			t.Fatalf("Ints(%v) is %v", s, e)
		}
		want := placesIn(order)
		for _, h := range append([]int{len(s), len(s) + 1, len(s) + 2, 2*len(s) + 1}, beyond()...) {
			checkRanks(t, s, h, want)
		}
	}
	for _, c := range []struct{ longest, below int }{{9, 2}, {6, 3}, {5, 4}} {
		rows(c.longest, c.below, check)
	}
	for _, text := range grownTexts(300) {
		check(asNumbers(text))
	}
	for n := range 70 {
		check(slices.Repeat([]int{3}, n))
	}
}

// alikeNext is of an order how many numbers each ending and the one ahead of it begin with alike.
func alikeNext(s, order []int) []int {
	at := placesIn(order)
	alike := make([]int, len(s))
	same := 0
	for place := range s {
		if at[place] == 0 {
			same = 0
			continue
		}
		ahead := order[at[place]-1]
		for max(place, ahead)+same < len(s) && s[place+same] == s[ahead+same] {
			same++
		}
		alike[at[place]] = same
		same = max(same-1, 0)
	}
	return alike
}

// ranksFromOrder is the ranks by h from 1 on, by all places in order and what neighbours have alike.
func ranksFromOrder(order, alike []int, h int) []int {
	ranks := make([]int, len(order))
	first := 0
	for i, place := range order {
		if alike[i] < h {
			first = i
		}
		ranks[place] = first
	}
	return ranks
}

// The other way to come to the ranks, for rows that are too long to count, comes to what the words say.
func TestRanksFromOrder(t *testing.T) {
	rows(6, 3, func(s []int) {
		order := byEndings(s)
		for h := 1; h < len(s)+3; h++ {
			if got := ranksFromOrder(order, alikeNext(s, order), h); !slices.Equal(got, ranksInWords(s, h)) {
				t.Fatalf("%v, h %d, is %v", s, h, got)
			}
		}
	})
}

// P15.1, P15.2: rows of MaxText numbers, and many h, each in well under a second.
func TestRanksOfMaxText(t *testing.T) {
	n := api.MaxText
	for _, c := range longTexts(n) {
		s := asNumbers(c.text)
		order, e := Bytes(c.text)
		if e != api.OK || !inOrder(s, order) {
			t.Fatalf("%s is not in order: %v", c.name, e)
		}
		alike := alikeNext(s, order)
		for i := range s {
			s[i] = (s[i] - 100) << 40
		}
		for _, h := range []int{1, 3, 100, 65537, n - 1, math.MaxInt} {
			var got []int
			if took := soon(func() { got = Ranks(s, h) }); took >= wellUnder {
				t.Errorf("%s, h %d, takes %v", c.name, h, took)
			}
			if !slices.Equal(got, ranksFromOrder(order, alike, h)) {
				t.Errorf("Ranks of %s, h %d, are others", c.name, h)
			}
		}
	}
}

// W6: neither what is handed to Ranks nor the room around it is changed, or told of.
func TestRowOfRanksStays(t *testing.T) {
	for _, around := range []int{0, 1, 3, -1, math.MaxInt, math.MinInt} {
		for _, c := range memoryCases() {
			room := slices.Concat([]int{around, around}, c, []int{around, around, around, around})
			was := slices.Clone(room)
			for h := -1; h < len(c)+3; h++ {
				want := []int(nil)
				if h >= 0 {
					want = ranksInWords(c, h)
				}
				checkRanks(t, room[2:2+len(c)], h, want)
			}
			if !slices.Equal(room, was) {
				t.Errorf("%v has become %v", was, room)
			}
		}
	}
}

// W6: ranks share no memory with the row, nor the room behind it, whichever of both is written over.
func TestRanksAreNotTheRow(t *testing.T) {
	for _, c := range memoryCases() {
		for h := range len(c) + 2 {
			for _, spare := range []int{0, 16} {
				s := append(make([]int, 0, len(c)+spare), c...)
				marked(Ranks(s, h), -7)
				if slices.Contains(s[:cap(s)], -7) {
					t.Errorf("%v has become %v with its ranks", c, s)
				}
				got := Ranks(s, h)
				marked(s, -7)
				if !slices.Equal(got, ranksInWords(c, h)) || slices.Contains(got[:cap(got)], -7) {
					t.Errorf("the ranks of %v, and the room behind them, have become %v", c, got[:cap(got)])
				}
			}
		}
	}
}

// FuzzRanks takes its numbers from bytes, those from 128 on as numbers below 0.
func FuzzRanks(f *testing.F) {
	f.Add([]byte{1, 0, 1}, 1)
	f.Add([]byte("banana"), 3)
	f.Add([]byte{255, 0, 128, 127}, math.MaxInt)
	f.Add([]byte{}, -1)
	f.Fuzz(func(t *testing.T, b []byte, h int) {
		var s []int
		for _, v := range b[:min(len(b), 200)] {
			s = append(s, int(int8(v)))
		}
		if h < 0 {
			checkRanks(t, s, h, nil)
			return
		}
		checkRanks(t, s, h, ranksInWords(s, h))
		checkRanks(t, s, h%(len(s)+1), ranksInWords(s, h%(len(s)+1)))
	})
}
