package rise

import (
	"errors"
	"slices"
	"testing"

	"letterbeck/api"
	"letterbeck/internal/sample"
)

// result is what the functions return for a valid list.
type result struct {
	piles      []int
	long, fall int
	shape      []int
}

func less(a, b int) bool       { return a < b }
func notGreater(a, b int) bool { return a <= b }
func greater(a, b int) bool    { return a > b }
func notLess(a, b int) bool    { return a >= b }

// longestOfAll goes through all subsequences whose neighbours are related, and whose first
// number is related to the one before l, if there is one.
func longestOfAll(l []int, before *int, related func(a, b int) bool) int {
	longest := 0
	for i, number := range l {
		if before == nil || related(*before, number) {
			longest = max(longest, 1+longestOfAll(l[i+1:], &number, related))
		}
	}
	return longest
}

// longestUpTo returns for each place the length of a longest one of these subsequences that
// ends there.
func longestUpTo(l []int, related func(a, b int) bool) []int {
	lengths := make([]int, len(l))
	for i := range l {
		for j := range i {
			if related(l[j], l[i]) {
				lengths[i] = max(lengths[i], lengths[j])
			}
		}
		lengths[i]++
	}
	return lengths
}

// longest returns the length of a longest one of these subsequences.
func longest(l []int, related func(a, b int) bool) int {
	return slices.Max(append(longestUpTo(l, related), 0))
}

// pilesByDefinition keeps whole piles.
func pilesByDefinition(l []int) [][]int {
	var piles [][]int
	for _, number := range l {
		first := 0
		for first < len(piles) && piles[first][len(piles[first])-1] < number {
			first++
		}
		if first == len(piles) {
			piles = append(piles, nil)
		}
		piles[first] = append(piles[first], number)
	}
	return piles
}

func topsByDefinition(l []int) []int {
	var tops []int
	for _, pile := range pilesByDefinition(l) {
		tops = append(tops, pile[len(pile)-1])
	}
	return tops
}

// shapeByDefinition inserts all numbers into the first row before it inserts those that
// they replace, in the order in which they are replaced, into the next rows.
func shapeByDefinition(l []int) []int {
	if len(l) == 0 {
		return nil
	}
	var row, replaced []int
	for _, number := range l {
		first := 0
		for first < len(row) && row[first] <= number {
			first++
		}
		if first == len(row) {
			row = append(row, number)
		} else {
			replaced = append(replaced, row[first])
			row[first] = number
		}
	}
	return append([]int{len(row)}, shapeByDefinition(replaced)...)
}

func byDefinition(l []int) result {
	return result{topsByDefinition(l), longest(l, less), longest(l, notLess), shapeByDefinition(l)}
}

func resultWithoutError(t *testing.T, l []int) result {
	t.Helper()
	var errs [5]error
	var r result
	errs[0] = Check(l)
	r.piles, errs[1] = Piles(l)
	r.long, errs[2] = Long(l)
	r.fall, errs[3] = Fall(l)
	r.shape, errs[4] = Shape(l)
	for i, err := range errs {
		if err != nil {
			t.Fatalf("%v: error %v of function %d, want none", l, err, i)
		}
	}
	return r
}

// compare checks all functions on a valid list.
func compare(t *testing.T, l []int, want result) {
	t.Helper()
	got := resultWithoutError(t, l)
	if !slices.Equal(got.piles, want.piles) {
		t.Fatalf("Piles(%v) = %v, want %v", l, got.piles, want.piles)
	}
	if got.long != want.long {
		t.Fatalf("Long(%v) = %d, want %d", l, got.long, want.long)
	}
	if got.fall != want.fall {
		t.Fatalf("Fall(%v) = %d, want %d", l, got.fall, want.fall)
	}
	if !slices.Equal(got.shape, want.shape) {
		t.Fatalf("Shape(%v) = %v, want %v", l, got.shape, want.shape)
	}
	checkTops(t, l, got)
	checkRows(t, l, got)
}

// checkTops checks that the tops are as many as a longest subsequence has numbers, that
// they increase, and that each one is the smallest last number of a subsequence of its
// length.
func checkTops(t *testing.T, l []int, r result) {
	t.Helper()
	if len(r.piles) != r.long {
		t.Fatalf("%v: %d piles, but %d numbers increase", l, len(r.piles), r.long)
	}
	lengths := longestUpTo(l, less)
	for i, top := range r.piles {
		if i > 0 && r.piles[i-1] >= top {
			t.Fatalf("Piles(%v) = %v do not increase", l, r.piles)
		}
		least := api.MaxValue + 1
		for place, number := range l {
			if lengths[place] > i {
				least = min(least, number)
			}
		}
		if top != least {
			t.Fatalf("Piles(%v) = %v: %d numbers increase to %d, not %d", l, r.piles, i+1, least, top)
		}
	}
}

// checkRows checks that the rows have all numbers and do not become longer, and that the
// first row and the first column are as long as the subsequences that they stand for.
func checkRows(t *testing.T, l []int, r result) {
	t.Helper()
	sum := 0
	for i, length := range r.shape {
		if length < 1 || i > 0 && r.shape[i-1] < length {
			t.Fatalf("Shape(%v) = %v are no row lengths", l, r.shape)
		}
		sum += length
	}
	if sum != len(l) {
		t.Fatalf("Shape(%v) = %v: the sum is %d, want %d", l, r.shape, sum, len(l))
	}
	if len(l) == 0 {
		return
	}
	if want := longest(l, notGreater); r.shape[0] != want {
		t.Fatalf("Shape(%v) = %v, but %d numbers do not decrease", l, r.shape, want)
	}
	if want := longest(l, greater); len(r.shape) != want {
		t.Fatalf("Shape(%v) = %v, but %d numbers decrease", l, r.shape, want)
	}
}

// compareError checks that all functions fail in the same way.
func compareError(t *testing.T, l []int, want api.Errno) {
	t.Helper()
	if err := Check(l); !errors.Is(err, want) {
		t.Fatalf("Check(%v): error %v, want %v", l, err, want)
	}
	if got, err := Piles(l); !errors.Is(err, want) || len(got) != 0 {
		t.Fatalf("Piles(%v) = %v, %v, want nothing, %v", l, got, err, want)
	}
	if got, err := Long(l); !errors.Is(err, want) || got != 0 {
		t.Fatalf("Long(%v) = %d, %v, want 0, %v", l, got, err, want)
	}
	if got, err := Fall(l); !errors.Is(err, want) || got != 0 {
		t.Fatalf("Fall(%v) = %d, %v, want 0, %v", l, got, err, want)
	}
	if got, err := Shape(l); !errors.Is(err, want) || len(got) != 0 {
		t.Fatalf("Shape(%v) = %v, %v, want nothing, %v", l, got, err, want)
	}
}

func TestWrittenOut(t *testing.T) {
	const most = api.MaxValue
	for _, c := range []struct {
		l, piles []int
		fall     int
		shape    []int
	}{
		{[]int{3, 1, 2}, []int{1, 2}, 2, []int{2, 1}},

		{nil, nil, 0, nil}, // no numbers
		{[]int{}, nil, 0, nil},
		{[]int{1, -1}[:0], nil, 0, nil},

		{[]int{0}, []int{0}, 1, []int{1}}, // one number
		{[]int{5}, []int{5}, 1, []int{1}},
		{[]int{most}, []int{most}, 1, []int{1}},

		{[]int{1, 1}, []int{1}, 2, []int{2}}, // equal numbers
		{[]int{0, 0, 0}, []int{0}, 3, []int{3}},
		{[]int{most, most, most, most}, []int{most}, 4, []int{4}},

		{[]int{1, 2}, []int{1, 2}, 1, []int{2}}, // increasing lists
		{[]int{0, most}, []int{0, most}, 1, []int{2}},
		{[]int{most - 1, most}, []int{most - 1, most}, 1, []int{2}},
		{[]int{1, 2, 3, 4, 5}, []int{1, 2, 3, 4, 5}, 1, []int{5}},
		{[]int{2, 3, 5, 8, 13, 21}, []int{2, 3, 5, 8, 13, 21}, 1, []int{6}},

		{[]int{2, 1}, []int{1}, 2, []int{1, 1}}, // decreasing lists
		{[]int{most, 0}, []int{0}, 2, []int{1, 1}},
		{[]int{1, 0}, []int{0}, 2, []int{1, 1}},
		{[]int{5, 4, 3, 2, 1}, []int{1}, 5, []int{1, 1, 1, 1, 1}},
		{[]int{100, 50, 20, 0}, []int{0}, 4, []int{1, 1, 1, 1}},

		{[]int{1, 1, 2}, []int{1, 2}, 2, []int{3}}, // one number twice
		{[]int{1, 2, 2}, []int{1, 2}, 2, []int{3}},
		{[]int{1, 2, 1}, []int{1, 2}, 2, []int{2, 1}},
		{[]int{2, 1, 2}, []int{1, 2}, 2, []int{2, 1}},
		{[]int{2, 1, 1}, []int{1}, 3, []int{2, 1}},
		{[]int{2, 2, 1}, []int{1}, 3, []int{2, 1}},
		{[]int{0, most, 0, most}, []int{0, most}, 2, []int{3, 1}},
		{[]int{most, 0, most, 0}, []int{0, most}, 3, []int{2, 2}},

		{[]int{1, 1, 2, 2}, []int{1, 2}, 2, []int{4}}, // several numbers twice
		{[]int{1, 2, 1, 2}, []int{1, 2}, 2, []int{3, 1}},
		{[]int{1, 2, 2, 1}, []int{1, 2}, 3, []int{3, 1}},
		{[]int{2, 1, 1, 2}, []int{1, 2}, 3, []int{3, 1}},
		{[]int{2, 1, 2, 1}, []int{1, 2}, 3, []int{2, 2}},
		{[]int{2, 2, 1, 1}, []int{1}, 4, []int{2, 2}},
		{[]int{3, 3, 2, 2, 1, 1}, []int{1}, 6, []int{2, 2, 2}},
		{[]int{1, 1, 2, 2, 3, 3}, []int{1, 2, 3}, 2, []int{6}},

		{[]int{2, 4, 1, 3}, []int{1, 3}, 2, []int{2, 2}}, // a first number is no longer on top
		{[]int{3, 4, 1, 2}, []int{1, 2}, 2, []int{2, 2}},
		{[]int{2, 3, 1}, []int{1, 3}, 2, []int{2, 1}},
		{[]int{1, 3, 2}, []int{1, 2}, 2, []int{2, 1}},

		{[]int{2, 2, 1, 3}, []int{1, 3}, 3, []int{3, 1}}, // the first greater number is replaced
		{[]int{1, 5, 5, 2}, []int{1, 2}, 3, []int{3, 1}},
		{[]int{2, 2, 2, 1, 1, 3}, []int{1, 3}, 5, []int{4, 2}},

		{[]int{4, 3, 2, 1, 1, 2, 3, 4}, []int{1, 2, 3, 4}, 5, []int{5, 1, 1, 1}}, // several rows
		{[]int{6, 7, 8, 3, 4, 5, 0, 1, 2}, []int{0, 1, 2}, 3, []int{3, 3, 3}},
		{[]int{5, 3, 4, 0, 1, 2}, []int{0, 1, 2}, 3, []int{3, 2, 1}},

		{[]int{7, 2, 8, 1, 3, 4, 10, 6, 9, 5}, []int{1, 3, 4, 5, 9}, 3, []int{5, 3, 2}},
		{[]int{3, 1, 4, 1, 5, 9, 2, 6, 5, 3, 5}, []int{1, 2, 3, 5}, 4, []int{5, 4, 1, 1}},
		{[]int{0, 8, 4, 12, 2, 10, 6, 14, 1, 9, 5, 13, 3, 11, 7, 15}, []int{0, 1, 3, 7, 11, 15}, 5, []int{6, 3, 3, 3, 1}},
	} {
		compare(t, c.l, result{c.piles, len(c.piles), c.fall, c.shape})
	}
}

func TestOneListInAllOrdersWrittenOut(t *testing.T) {
	for _, c := range []struct {
		l    [3]int
		want result
	}{
		{[3]int{1, 2, 3}, result{[]int{1, 2, 3}, 3, 1, []int{3}}},
		{[3]int{1, 3, 2}, result{[]int{1, 2}, 2, 2, []int{2, 1}}},
		{[3]int{2, 1, 3}, result{[]int{1, 3}, 2, 2, []int{2, 1}}},
		{[3]int{2, 3, 1}, result{[]int{1, 3}, 2, 2, []int{2, 1}}},
		{[3]int{3, 1, 2}, result{[]int{1, 2}, 2, 2, []int{2, 1}}},
		{[3]int{3, 2, 1}, result{[]int{1}, 1, 3, []int{1, 1, 1}}},

		{[3]int{0, 0, api.MaxValue}, result{[]int{0, api.MaxValue}, 2, 2, []int{3}}},
		{[3]int{0, api.MaxValue, 0}, result{[]int{0, api.MaxValue}, 2, 2, []int{2, 1}}},
		{[3]int{api.MaxValue, 0, 0}, result{[]int{0}, 1, 3, []int{2, 1}}},
	} {
		compare(t, c.l[:], c.want)
	}
}

func TestAllOrders(t *testing.T) {
	for _, l := range [][]int{
		{1, 2, 3, 4, 5, 6, 7},
		{0, 1, 1, 2, 999, api.MaxValue, api.MaxValue},
		{3, 3, 3, 5, 5, 5},
	} {
		for _, order := range sample.Orders(l) {
			compare(t, order, byDefinition(order))
		}
	}
}

func TestAllShortLists(t *testing.T) {
	for _, l := range slices.Concat(
		sample.Lists([]int{0, api.MaxValue}, 12),
		sample.Lists([]int{0, 1, 2}, 8),
		sample.Lists([]int{4, 0, 3, 1}, 6),
		sample.Lists([]int{0, 1, 500, 999, api.MaxValue}, 5),
	) {
		compare(t, l, byDefinition(l))
	}
}

// Long and Fall agree with all subsequences, not only with the ones that are continued
// from the longest ones before.
func TestAllSubsequences(t *testing.T) {
	for _, l := range slices.Concat(sample.Lists([]int{0, 1, 2, 3}, 6), sample.Orders([]int{1, 2, 3, 3, 4, 5, 6})) {
		got := resultWithoutError(t, l)
		if want := longestOfAll(l, nil, less); got.long != want {
			t.Fatalf("Long(%v) = %d, want %d", l, got.long, want)
		}
		if want := longestOfAll(l, nil, notLess); got.fall != want {
			t.Fatalf("Fall(%v) = %d, want %d", l, got.fall, want)
		}
	}
}

// remaining returns how many numbers of l at most remain if no more than n of those that remain
// decrease.
func remaining(l []int, n int) int {
	found := 0
	for chosen := range 1 << len(l) {
		var rest []int
		for i, number := range l {
			if chosen>>i&1 == 1 {
				rest = append(rest, number)
			}
		}
		if longest(rest, greater) <= n {
			found = max(found, len(rest))
		}
	}
	return found
}

// The first rows together have as many numbers as can be distributed among the same number
// of subsequences that do not decrease (Greene's theorem).
func TestShapeWithoutTableau(t *testing.T) {
	for _, l := range slices.Concat(
		sample.Lists([]int{0, 1, 2, 3}, 5), sample.Orders([]int{1, 2, 3, 4, 5, 6}), sample.Orders([]int{0, 0, 1, 2, 2, 3}),
	) {
		sum := 0
		for i, length := range resultWithoutError(t, l).shape {
			sum += length
			if want := remaining(l, i+1); sum != want {
				t.Fatalf("the first %d rows of %v have %d numbers, want %d", i+1, l, sum, want)
			}
		}
	}
}

// checkReversal checks that what does not decrease in l does not increase in its reversal,
// and that what decreases in l increases there.
func checkReversal(t *testing.T, l []int) {
	t.Helper()
	r := resultWithoutError(t, l)
	reversed := slices.Clone(l)
	slices.Reverse(reversed)
	back := resultWithoutError(t, reversed)
	if back.long != len(r.shape) || back.fall != r.shape[0] {
		t.Fatalf("Long and Fall of %v are %d and %d, but the shape of its reversal is %v", reversed, back.long, back.fall, r.shape)
	}
}

func TestReversals(t *testing.T) {
	for _, l := range slices.Concat(sample.Lists([]int{0, 1, 2, 3}, 6)[1:], longLists()) {
		checkReversal(t, l)
	}
}

// If all numbers differ, the rows of the reversal are the columns.
func TestRowsOfReversal(t *testing.T) {
	for _, l := range sample.Orders([]int{0, 1, 2, 3, 4, 5, api.MaxValue}) {
		columns := make([]int, resultWithoutError(t, l).shape[0])
		for _, length := range resultWithoutError(t, l).shape {
			for i := range length {
				columns[i]++
			}
		}
		slices.Reverse(l)
		if got := resultWithoutError(t, l).shape; !slices.Equal(got, columns) {
			t.Fatalf("Shape(%v) = %v, want %v", l, got, columns)
		}
	}
}

// numbersOf returns the bytes of s as numbers from 0 to MaxValue.
func numbersOf(s string) []int {
	greatest := slices.Max([]byte(s))
	var l []int
	for i := range len(s) {
		l = append(l, int(s[i])*api.MaxValue/max(1, int(greatest)))
	}
	return l
}

// longLists returns lists of MaxList or almost as many numbers, some of which differ or all.
func longLists() [][]int {
	var all [][]int
	for signs := 1; signs <= 256; signs++ {
		s := sample.Irregular(signs, 3*api.MaxList)
		for from := range 2 * api.MaxList {
			for n := api.MaxList - 2; n <= api.MaxList; n++ {
				all = append(all, numbersOf(s[from:from+n]))
			}
		}
	}
	return all
}

func TestLongLists(t *testing.T) {
	for _, l := range longLists() {
		compare(t, l, byDefinition(l))
	}
}

func TestMaxListWrittenOut(t *testing.T) {
	const n, most = api.MaxList, api.MaxValue
	rising, falling := sample.Sequence(0, 1, n), sample.Sequence(n-1, -1, n)
	column := slices.Repeat([]int{1}, n)
	for _, c := range []struct {
		l, piles []int
		fall     int
		shape    []int
	}{
		{make([]int, n), []int{0}, n, []int{n}},
		{slices.Repeat([]int{most}, n), []int{most}, n, []int{n}},
		{rising, rising, 1, []int{n}},
		{falling, []int{0}, n, column},
		{sample.Sequence(0, 50, n), sample.Sequence(0, 50, n), 1, []int{n}},
		{sample.Sequence(most, -52, n), []int{most - 52*(n-1)}, n, column},
		{slices.Repeat([]int{0, most}, n/2), []int{0, most}, n / 2, []int{n/2 + 1, n/2 - 1}},
		{slices.Repeat([]int{most, 0}, n/2), []int{0, most}, n/2 + 1, []int{n / 2, n / 2}},
		{slices.Concat(rising[n/2:], rising[:n/2]), rising[:n/2], 2, []int{n / 2, n / 2}},
		{slices.Concat(falling[n/2:], falling[:n/2]), []int{0, n / 2}, n / 2, slices.Repeat([]int{2}, n/2)},
		{slices.Repeat(falling[:n/2], 2), []int{n / 2, n/2 + 1}, n/2 + 1, slices.Repeat([]int{2}, n/2)},
		{slices.Repeat(sample.Sequence(0, 1, n/4), 4), sample.Sequence(0, 1, n/4), 4, []int{8, 6, 4, 2}},
		{append(slices.Repeat([]int{1}, n-1), 0), []int{0}, n, []int{n - 1, 1}},
		{append([]int{1}, make([]int, n-1)...), []int{0}, n, []int{n - 1, 1}},
	} {
		if len(c.l) != n {
			t.Fatalf("%d numbers, want %d", len(c.l), n)
		}
		compare(t, c.l, result{c.piles, len(c.piles), c.fall, c.shape})
	}
}

func TestEachNumber(t *testing.T) {
	for number := range api.MaxValue + 1 {
		compare(t, []int{number}, result{[]int{number}, 1, 1, []int{1}})
		compare(t, []int{number, number}, result{[]int{number}, 1, 2, []int{2}})
		if number > 0 {
			compare(t, []int{number - 1, number}, result{[]int{number - 1, number}, 2, 1, []int{2}})
			compare(t, []int{number, number - 1}, result{[]int{number - 1}, 1, 2, []int{1, 1}})
		}
	}
}

// One number is wrong, at any place, or several are.
func TestOutOfRange(t *testing.T) {
	wrong := sample.Outside(0, api.MaxValue)
	for _, l := range [][]int{{0}, {0, api.MaxValue}, {1, 1, 1}, sample.Sequence(0, 1, api.MaxList)} {
		for replaced := range sample.Replaced(l, wrong) {
			compareError(t, replaced, api.ErrRange)
		}
	}
	compareError(t, []int{-1, 0, api.MaxValue + 1}, api.ErrRange)
	compareError(t, slices.Repeat([]int{-1}, api.MaxList), api.ErrRange)
	compareError(t, wrong, api.ErrRange)
}

// Numbers that are out of range, wherever they stand, do not hide the error.
func TestTooManyNumbers(t *testing.T) {
	for _, n := range []int{api.MaxList + 1, api.MaxList + 2, 2 * api.MaxList, 1000} {
		for _, step := range []int{1, 0, -1} {
			compareError(t, sample.Sequence(0, step, n), api.ErrFull)
			compareError(t, sample.Sequence(api.MaxValue, step, n), api.ErrFull)
		}
		for replaced := range sample.Replaced(make([]int, n), []int{-1, api.MaxValue + 1}) {
			compareError(t, replaced, api.ErrFull)
		}
	}
}

// Valid and invalid numbers are told apart in all their orders.
func TestAllShortListsWithErrors(t *testing.T) {
	outside := func(number int) bool { return number < 0 || number > api.MaxValue }
	for _, l := range sample.Lists([]int{-1, 0, api.MaxValue, api.MaxValue + 1}, 5) {
		if slices.ContainsFunc(l, outside) {
			compareError(t, l, api.ErrRange)
		} else {
			compare(t, l, byDefinition(l))
		}
	}
}

// Neither the numbers nor the spare capacity behind them may change.
func TestArgumentStays(t *testing.T) {
	for _, all := range [][]int{
		{3, 1, 2, 30, 40},
		{5, 4, 3, 2, 1, 0},
		{0, 1, 1, 0, 2, 30, 40},
		{2, -1, 1, 30, 40},
		{2, 1, api.MaxValue + 1, 30, 40},
		slices.Concat(sample.Sequence(api.MaxList, -1, api.MaxList), []int{2, 1}),
		slices.Concat(sample.Sequence(api.MaxList+1, -1, api.MaxList+1), []int{2, 1}),
	} {
		before := slices.Clone(all)
		for n := range len(all) {
			l := all[:n]
			err := Check(l)
			_, pilesErr := Piles(l)
			_, longErr := Long(l)
			_, fallErr := Fall(l)
			_, shapeErr := Shape(l)
			if !slices.Equal(all, before) {
				t.Fatalf("the numbers %v have become %v", before, all)
			}
			for _, other := range []error{pilesErr, longErr, fallErr, shapeErr, Check(l)} {
				if !errors.Is(other, err) {
					t.Errorf("%v: errors %v and %v, want the same", l, err, other)
				}
			}
		}
	}
}

// A caller may change the results that it was given, and the list that it has given.
func TestResultsShareNoMemory(t *testing.T) {
	l := []int{3, 1, 2}
	first, second := resultWithoutError(t, l), resultWithoutError(t, l)
	clear(first.piles[:cap(first.piles)])
	clear(first.shape[:cap(first.shape)])
	clear(l)
	if !slices.Equal(second.piles, []int{1, 2}) || !slices.Equal(second.shape, []int{2, 1}) {
		t.Errorf("the results have become %v and %v", second.piles, second.shape)
	}
	compare(t, []int{3, 1, 2}, result{[]int{1, 2}, 2, 2, []int{2, 1}})
}
