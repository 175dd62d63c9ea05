package rank

import (
	"math"
	"slices"
	"testing"

	"whorl/api"
)

// rows hands over all rows of n numbers, each least to greatest.
func rows(n, least, greatest int, each func([]int)) {
	row := make([]int, 0, n)
	var lay func()
	lay = func() {
		if len(row) == n {
			each(row)
			return
		}
		for v := least; v <= greatest; v++ {
			row = append(row, v)
			lay()
			row = row[:len(row)-1]
		}
	}
	lay()
}

// orders hands over all orders of n numbers.
func orders(n int, each func([]int)) {
	row := counted(n)
	var lay func(int)
	lay = func(from int) {
		if from == n {
			each(row)
			return
		}
		for i := from; i < n; i++ {
			row[from], row[i] = row[i], row[from]
			lay(from + 1)
			row[from], row[i] = row[i], row[from]
		}
	}
	lay(0)
}

// counted is the numbers from 0 on, n of them.
func counted(n int) []int {
	row := make([]int, n)
	for i := range row {
		row[i] = i
	}
	return row
}

// fallen is the numbers from n - 1 down to 0.
func fallen(n int) []int {
	row := counted(n)
	slices.Reverse(row)
	return row
}

// strode is the numbers 0 to n - 1, each a step further on than the one ahead of it, round and round; step and n have no
// divisor together.
func strode(n, from, step int) []int {
	row := make([]int, n)
	for i := range row {
		row[i] = (from + i*step) % n
	}
	return row
}

// isInWords is what Is is to answer: by how often each number is there.
func isInWords(a []int) bool {
	for number := range a {
		often := 0
		for _, v := range a {
			if v == number {
				often++
			}
		}
		if often != 1 {
			return false
		}
	}
	return true
}

// inverseInWords is what Inverse is to answer of an order: of each number the place where it stands.
func inverseInWords(a []int) []int {
	var where []int
	for number := range a {
		where = append(where, slices.Index(a, number))
	}
	return where
}

// accept holds Is and Inverse of an order against an answer.
func accept(t *testing.T, a, want []int) {
	t.Helper()
	if !Is(a) {
		t.Errorf("Is(%v) is false", a)
	}
	if got, ok := Inverse(a); !ok || !slices.Equal(got, want) {
		t.Errorf("Inverse(%v) is %v, %t, not %v", a, got, ok, want)
	}
}

// refuse holds Is and Inverse of a row that is no order against nothing.
func refuse(t *testing.T, a []int) {
	t.Helper()
	if Is(a) {
		t.Errorf("Is(%v) is true", a)
	}
	if got, ok := Inverse(a); ok || got != nil {
		t.Errorf("Inverse(%v) is %v, %t", a, got, ok)
	}
}

// check holds Is and Inverse of a row against the words.
func check(t *testing.T, a []int) {
	t.Helper()
	if isInWords(a) {
		accept(t, a, inverseInWords(a))
	} else {
		refuse(t, a)
	}
}

// checkTwice holds Inverse of an order's Inverse against the order.
func checkTwice(t *testing.T, a []int) {
	t.Helper()
	once, _ := Inverse(a)
	if again, ok := Inverse(once); !ok || !slices.Equal(again, a) {
		t.Fatalf("of an order of %d numbers Inverse twice is %d numbers, %t, and not the order", len(a), len(again), ok)
	}
}

// checkLong holds Is and Inverse of a long order against the words, each number told by what stands at its place.
func checkLong(t *testing.T, a []int) {
	t.Helper()
	where, ok := Inverse(a)
	if !ok || !Is(a) || len(where) != len(a) {
		t.Fatalf("of an order of %d numbers Is is %t, Inverse is %d numbers, %t", len(a), Is(a), len(where), ok)
	}
	for number, place := range where {
		if place < 0 || place >= len(a) || a[place] != number {
			t.Fatalf("of an order of %d numbers %d is told to stand at %d", len(a), number, place)
		}
	}
	checkTwice(t, a)
}

// refuseLong holds Is and Inverse of a long row that is no order against nothing.
func refuseLong(t *testing.T, a []int) {
	t.Helper()
	if got, ok := Inverse(a); ok || got != nil || Is(a) {
		t.Errorf("of %d numbers that are no order Is is %t, Inverse is %d numbers, %t", len(a), Is(a), len(got), ok)
	}
}

// P16.1: the chapter's example.
func TestExample(t *testing.T) {
	accept(t, []int{2, 0, 1}, []int{1, 2, 0})
}

// P16.1: all short rows of small numbers, those below 0 and those of the length and above it among them.
func TestAllShortRows(t *testing.T) {
	all := 1
	for n := range 7 {
		all *= max(n, 1)
		found := 0
		rows(n, -2, n+1, func(a []int) {
			check(t, a)
			if Is(a) {
				found++
			}
		})
		if found != all {
			t.Errorf("of %d numbers there are %d orders, not %d", n, found, all)
		}
	}
}

// P16.1: all rows, somewhat longer, of numbers that may be: just those that have one twice are refused.
func TestAllRowsOfNumbersThatMayBe(t *testing.T) {
	for n := 1; n <= 7; n++ {
		rows(n, 0, n-1, func(a []int) { check(t, a) })
	}
}

// P16.1, P16.2: all short orders, each number's place, and Inverse twice.
func TestAllShortOrders(t *testing.T) {
	for n := range 9 {
		orders(n, func(a []int) {
			accept(t, a, inverseInWords(a))
			checkTwice(t, a)
		})
	}
}

// P16.1: by hand.
func TestSomeRows(t *testing.T) {
	for _, c := range []struct{ a, want []int }{
		{[]int{0}, []int{0}},
		{[]int{0, 1}, []int{0, 1}},
		{[]int{1, 0}, []int{1, 0}},
		{[]int{1, 2, 0}, []int{2, 0, 1}},
		{[]int{0, 2, 1}, []int{0, 2, 1}},
		{[]int{5, 3, 1, 0, 4, 2}, []int{3, 2, 5, 1, 4, 0}},
		{[]int{10, 7, 4, 1, 0, 9, 8, 6, 3, 5, 2}, []int{4, 3, 10, 8, 2, 9, 7, 1, 6, 5, 0}},
	} {
		accept(t, c.a, c.want)
	}
	for _, a := range [][]int{
		{1}, {-1}, {2}, {0, 0}, {1, 1}, {0, 2}, {2, 0}, {1, 2}, {2, 1}, {-1, 0}, {0, -1}, {1, -1}, {-1, 1},
		// Such as are together as much as an order is.
		{1, 1, 1}, {0, 3, 0}, {-1, 1, 3}, {0, 0, 3, 3}, {0, 2, 2, 2}, {0, 1, 1, 4},
		// Numbers from 1 on, or from -1 on, and such as leave out one that may be.
		{1, 2, 3}, {3, 2, 1}, {0, 1, 2, 4}, {1, 2, 1}, {4, 0, 1, 2}, {0, 1, 3}, {-1, 0, 1},
	} {
		refuse(t, a)
	}
}

// P16.1, W5: nothing, nil or empty, is an order, and its Inverse is nothing.
func TestNothing(t *testing.T) {
	for _, none := range [][]int{nil, {}, make([]int, 0, 4), []int{0, 1}[:0], []int{0, 1}[2:], []int{5, -5}[1:1]} {
		if got, ok := Inverse(none); !ok || len(got) != 0 || !Is(none) {
			t.Errorf("of nothing, with room for %d, Is is %t, Inverse is %v, %t", cap(none), Is(none), got, ok)
		}
	}
}

// farNumbers are the least and the greatest numbers there are, and such as say otherwise by their lower digits.
func farNumbers() []int {
	return []int{
		math.MinInt, math.MinInt + 1, math.MinInt32, math.MaxInt, math.MaxInt - 1, math.MaxInt32, math.MaxUint32,
		1 << 8, 1<<8 + 1, 1 << 16, 1<<16 + 1, 1 << 31, 1 << 32, 1<<32 + 1, 1<<32 + 2, -1 << 31, -1 << 32, 1 - 1<<32,
		math.MinInt + 2, -1, -2,
	}
}

// P16.1: one number is an order just if it is 0.
func TestOne(t *testing.T) {
	for v := -1000; v <= 1000; v++ {
		check(t, []int{v})
	}
	for _, v := range farNumbers() {
		refuse(t, []int{v})
	}
}

// P16.1: two numbers are an order just if they are 0 and 1, either way round.
func TestTwo(t *testing.T) {
	few := append(farNumbers(), 0, 1, 2, 3)
	found := 0
	for _, one := range few {
		for _, other := range few {
			check(t, []int{one, other})
			if Is([]int{one, other}) {
				found++
			}
		}
	}
	if found != 2 {
		t.Errorf("of two numbers there are %d orders", found)
	}
}

// P16.1: the least and the greatest numbers there are, in the place of any number of an order.
func TestFarNumbers(t *testing.T) {
	for _, n := range []int{1, 2, 3, 4, 10, 50} {
		for _, a := range [][]int{counted(n), fallen(n)} {
			for at, was := range a {
				for _, far := range farNumbers() {
					a[at] = far
					refuse(t, a)
				}
				a[at] = was
			}
			accept(t, a, a)
		}
	}
}

// P16.1: numbers that rise and that fall are their own Inverse; those that rise or fall from elsewhere are no orders.
func TestOneWay(t *testing.T) {
	for n := 1; n <= 200; n++ {
		accept(t, counted(n), counted(n))
		accept(t, fallen(n), fallen(n))
		for _, by := range []int{-n, -2, -1, 1, 2, n, math.MinInt, math.MaxInt - n} {
			rise := counted(n)
			for i := range rise {
				rise[i] += by
			}
			refuse(t, rise)
			slices.Reverse(rise)
			refuse(t, rise)
		}
	}
}

// P16.1: an order turned round by some places: each number stands that much further on.
func TestTurnedRound(t *testing.T) {
	for n := 1; n <= 40; n++ {
		for by := range n {
			accept(t, strode(n, by, 1), strode(n, n-by, 1))
		}
	}
}

// P16.1: one number twice and one that is missing: every pair of places, those at the beginning, in the middle and at
// the end among them.
func TestTwice(t *testing.T) {
	for _, n := range []int{2, 3, 4, 5, 10, 25} {
		for _, a := range [][]int{counted(n), fallen(n), strode(n, n/2, 1)} {
			for missing, was := range a {
				for twice := range a {
					if twice != missing {
						a[missing] = a[twice]
						check(t, a)
						refuse(t, a)
					}
				}
				a[missing] = was
			}
		}
	}
}

// P16.1: one number for all of a row is an order of one alone.
func TestAllTheSame(t *testing.T) {
	for n := 2; n <= 60; n++ {
		for _, v := range []int{-1, 0, 1, n / 2, n - 1, n} {
			refuse(t, slices.Repeat([]int{v}, n))
		}
	}
}

// P16.1: an order with one number more than it should have, or one less.
func TestOneMoreOneLess(t *testing.T) {
	for n := 1; n <= 30; n++ {
		a := strode(n, n/3, 1)
		for more := -1; more <= n+1; more++ {
			for at := 0; at <= n; at++ {
				check(t, slices.Insert(slices.Clone(a), at, more))
			}
		}
		for at := range a {
			check(t, slices.Delete(slices.Clone(a), at, at+1))
		}
	}
}

// mixed hands over numbers of no plain rule, 0 to below - 1, the same ones each time.
func mixed() func(below int) int {
	state := uint64(16)
	return func(below int) int {
		state = state*6364136223846793005 + 1442695040888963407
		return int(state>>33) % below
	}
}

// shuffled is an order of n numbers of no plain rule.
func shuffled(number func(below int) int, n int) []int {
	row := counted(n)
	for i := n - 1; i > 0; i-- {
		j := number(i + 1)
		row[i], row[j] = row[j], row[i]
	}
	return row
}

// P16.1, P16.2: orders of some hundred numbers of no plain rule, and such with one number that is there twice.
func TestLongerRows(t *testing.T) {
	number := mixed()
	for _, n := range []int{2, 3, 17, 64, 255, 256, 257, 500} {
		for range 20 {
			a := shuffled(number, n)
			check(t, a)
			checkTwice(t, a)
			one := number(n)
			other := (one + 1 + number(n-1)) % n
			a[one] = a[other]
			check(t, a)
			refuse(t, a)
		}
	}
}

// P16.1, P16.2: MaxText numbers; the chapter names no bound, so that longer rows are told of, too.
func TestManyNumbers(t *testing.T) {
	number := mixed()
	for _, n := range []int{api.MaxText - 1, api.MaxText, api.MaxText + 1, 10 * api.MaxText} {
		for _, a := range [][]int{counted(n), fallen(n), strode(n, n/2, 1), strode(n, 3, n-1), shuffled(number, n)} {
			checkLong(t, a)
			for _, at := range []int{0, 1, n / 2, n - 2, n - 1} {
				was := a[at]
				for _, none := range []int{a[(at+1)%n], a[(at+n/2)%n], a[(at+n-1)%n], n, -1, math.MinInt, math.MaxInt} {
					a[at] = none
					refuseLong(t, a)
				}
				a[at] = was
			}
			checkLong(t, a)
		}
		refuseLong(t, make([]int, n))
		refuseLong(t, slices.Repeat([]int{n - 1}, n))
	}
}

// memoryCases are rows whose memory is held against that of answers: orders, and such as are none.
func memoryCases() [][]int {
	return [][]int{
		{}, {0}, {1, 0}, {0, 1, 2, 3}, {3, 2, 1, 0}, {2, 0, 1}, {5, 3, 1, 0, 4, 2}, strode(33, 5, 7), fallen(64),
		{1}, {0, 0}, {3, 1, 2}, {1, 2, 1}, {0, -1, 1}, {0, 1, 2, 4, 3, 4},
	}
}

// P16.1, W6: neither the row nor the room around it is changed, and that room is not told of.
func TestWhatIsHandedInStays(t *testing.T) {
	for _, around := range []int{-7, -1, 0, 1, 2, 9, math.MinInt, math.MaxInt} {
		for _, c := range memoryCases() {
			room := slices.Concat([]int{around, around}, c, []int{around, around, around, around})
			was := slices.Clone(room)
			check(t, room[2:2+len(c)])
			if !slices.Equal(room, was) {
				t.Errorf("%v has become %v", was, room)
			}
		}
	}
	// What is missing in a row stands behind its end, or ahead of it.
	refuse(t, []int{0, 0, 1}[:2])
	refuse(t, []int{0, 1, 1}[1:])
	refuse(t, []int{2, 0, 1}[:2])
	// What does not belong to an order stands there.
	accept(t, []int{1, 0, 0, -1}[:2], []int{1, 0})
	accept(t, []int{-1, 1, 1, 0}[2:], []int{1, 0})
}

// marked lays a number all over a list and the room behind it.
func marked(list []int, mark int) {
	list = list[:cap(list)]
	for i := range list {
		list[i] = mark
	}
}

// P16.2, W6: what is answered shares no memory with the row, nor the room behind it, whichever of both is written over.
func TestAnswersAreNotTheRow(t *testing.T) {
	for _, c := range memoryCases() {
		for _, spare := range []int{0, 8} {
			a := append(make([]int, 0, len(c)+spare), c...)
			got, _ := Inverse(a)
			marked(got, -7)
			if !slices.Equal(a, c) || slices.Contains(a[:cap(a)], -7) {
				t.Errorf("%v has become %v with its answer", c, a[:cap(a)])
			}
			got, ok := Inverse(a)
			marked(a, -7)
			if ok && !slices.Equal(got, inverseInWords(c)) || slices.Contains(got[:cap(got)], -7) {
				t.Errorf("the answer of %v has become %v with it", c, got[:cap(got)])
			}
		}
	}
}

// P16.2, W6: no two answers share memory, nor the room behind them; an order and its Inverse's Inverse do not.
func TestAnswersShareNothing(t *testing.T) {
	for _, c := range memoryCases() {
		var answers [][]int
		for range 3 {
			once, _ := Inverse(c)
			twice, _ := Inverse(once)
			answers = append(answers, once, twice)
		}
		for i, answer := range answers {
			marked(answer, -1-i)
		}
		for i, answer := range answers {
			if slices.ContainsFunc(answer[:cap(answer)], func(v int) bool { return v != -1-i }) {
				t.Errorf("two answers of %v share memory", c)
			}
		}
		// What an answer was written over with is not told of later.
		check(t, c)
	}
}

// W2, W7: what is answered stays, whatever is called later, and is answered again.
func TestAnswersStay(t *testing.T) {
	for _, c := range memoryCases() {
		got, ok := Inverse(c)
		for _, later := range memoryCases() {
			Is(later)
			Inverse(later)
		}
		if ok && !slices.Equal(got, inverseInWords(c)) {
			t.Errorf("the answer of %v has become %v", c, got)
		}
		check(t, c)
	}
}

// FuzzRank takes its numbers from bytes: 254 and 255 stand for the least and the greatest int, and those from 250 on
// for numbers below 0.
func FuzzRank(f *testing.F) {
	f.Add([]byte{2, 0, 1})
	f.Add([]byte{})
	f.Add([]byte{255, 254, 0})
	f.Add([]byte{0, 1, 1})
	f.Fuzz(func(t *testing.T, b []byte) {
		b = b[:min(len(b), 250)]
		var a []int
		for _, v := range b {
			switch {
			case v == 254:
				a = append(a, math.MinInt)
			case v == 255:
				a = append(a, math.MaxInt)
			case v >= 250:
				a = append(a, int(v)-254)
			default:
				a = append(a, int(v))
			}
		}
		check(t, a)
		// An order by these bytes: the fuzzer seldom makes such.
		order := counted(len(b))
		for i, v := range b {
			j := int(v) % len(b)
			order[i], order[j] = order[j], order[i]
		}
		check(t, order)
		checkTwice(t, order)
	})
}
