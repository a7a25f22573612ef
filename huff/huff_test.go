package huff

import (
	"errors"
	"math"
	"slices"
	"testing"

	"letterbeck/api"
	"letterbeck/internal/sample"
)

// longByDefinition removes no tree from the list: it marks the trees that are joined with
// the index of the tree that joins them, and counts the joins from each weight on.
func longByDefinition(weights []int) []int {
	list := slices.Clone(weights)
	joinedBy := make([]int, len(list), 2*len(list)) // 0: not yet joined
	for range len(weights) - 1 {
		sum := 0
		for range 2 {
			least := -1
			for i := range list {
				if joinedBy[i] == 0 && (least < 0 || list[i] < list[least]) {
					least = i
				}
			}
			joinedBy[least] = len(list)
			sum += list[least]
		}
		list = append(list, sum)
		joinedBy = append(joinedBy, 0)
	}
	lengths := make([]int, len(weights))
	for i := range lengths {
		for at := i; joinedBy[at] != 0; at = joinedBy[at] {
			lengths[i]++
		}
	}
	return lengths
}

// cheapest returns the smallest cost of all binary trees over the weights: that of the
// best way to join any two of them again and again.
func cheapest(weights []int) int {
	if len(weights) < 2 {
		return 0
	}
	least := math.MaxInt
	for j := range weights {
		for i := range j {
			sum := weights[i] + weights[j]
			rest := slices.Concat(weights[:i], weights[i+1:j], weights[j+1:], []int{sum})
			least = min(least, sum+cheapest(rest))
		}
	}
	return least
}

func costOf(weights, lengths []int) int {
	cost := 0
	for i := range weights {
		cost += weights[i] * lengths[i]
	}
	return cost
}

func compareLong(t *testing.T, weights, want []int) {
	t.Helper()
	got, err := Long(weights)
	if err != nil {
		t.Fatalf("Long(%v): error %v, want none", weights, err)
	}
	if !slices.Equal(got, want) {
		t.Fatalf("Long(%v) = %v, want %v", weights, got, want)
	}
}

func compareCost(t *testing.T, weights []int, want int) {
	t.Helper()
	got, err := Cost(weights)
	if err != nil {
		t.Fatalf("Cost(%v): error %v, want none", weights, err)
	}
	if got != want {
		t.Fatalf("Cost(%v) = %d, want %d", weights, got, want)
	}
}

// compareAll checks what all three functions say of valid weights.
func compareAll(t *testing.T, weights, lengths []int, cost int) {
	t.Helper()
	if err := Check(weights); err != nil {
		t.Fatalf("Check(%v): error %v, want none", weights, err)
	}
	compareLong(t, weights, lengths)
	compareCost(t, weights, cost)
}

// compareError checks that all three functions fail in the same way.
func compareError(t *testing.T, weights []int, want api.Errno) {
	t.Helper()
	if err := Check(weights); !errors.Is(err, want) {
		t.Fatalf("Check(%v): error %v, want %v", weights, err, want)
	}
	if got, err := Long(weights); !errors.Is(err, want) || len(got) != 0 {
		t.Fatalf("Long(%v) = %v, %v, want nothing, %v", weights, got, err, want)
	}
	if got, err := Cost(weights); !errors.Is(err, want) || got != 0 {
		t.Fatalf("Cost(%v) = %d, %v, want 0, %v", weights, got, err, want)
	}
}

func TestWrittenOut(t *testing.T) {
	const most = api.MaxWeight
	for _, c := range []struct {
		weights, lengths []int
		cost             int
	}{
		{[]int{1, 1, 2}, []int{2, 2, 1}, 6},

		{[]int{5}, []int{0}, 0}, // a single weight
		{[]int{0}, []int{0}, 0},
		{[]int{1}, []int{0}, 0},
		{[]int{most}, []int{0}, 0},

		{[]int{1, 1}, []int{1, 1}, 2}, // two weights
		{[]int{1, 2}, []int{1, 1}, 3},
		{[]int{2, 1}, []int{1, 1}, 3},
		{[]int{0, 7}, []int{1, 1}, 7},
		{[]int{most, 0}, []int{1, 1}, most},
		{[]int{most, most}, []int{1, 1}, 2 * most},

		{[]int{1, 1, 1}, []int{2, 2, 1}, 5}, // weights that are all equal
		{[]int{3, 3, 3, 3}, []int{2, 2, 2, 2}, 24},
		{[]int{1, 1, 1, 1, 1}, []int{3, 3, 2, 2, 2}, 12},
		{[]int{2, 2, 2, 2, 2, 2}, []int{3, 3, 3, 3, 2, 2}, 32},
		{[]int{1, 1, 1, 1, 1, 1, 1}, []int{3, 3, 3, 3, 3, 3, 2}, 20},

		{[]int{3, 1, 1, 1}, []int{1, 3, 3, 2}, 11}, // the first one of several is taken
		{[]int{1, 1, 1, 3}, []int{3, 3, 2, 1}, 11},
		{[]int{1, 1, 3, 1}, []int{3, 3, 1, 2}, 11},
		{[]int{1, 3, 1, 1}, []int{3, 1, 3, 2}, 11},
		{[]int{1, 2, 2}, []int{2, 2, 1}, 8}, // the second tree is the first one of several
		{[]int{2, 1, 2}, []int{2, 2, 1}, 8},
		{[]int{2, 2, 1}, []int{2, 1, 2}, 8},

		{[]int{2, 1, 1}, []int{1, 2, 2}, 6}, // a joined tree stands behind an equal weight
		{[]int{1, 1, 2, 2}, []int{2, 2, 2, 2}, 12},
		{[]int{2, 2, 1, 1}, []int{2, 2, 2, 2}, 12},
		{[]int{2, 1, 1, 2}, []int{2, 2, 2, 2}, 12},
		{[]int{1, 2, 2, 1}, []int{2, 2, 2, 2}, 12},
		{[]int{1, 1, 2, 3}, []int{3, 3, 2, 1}, 13},
		{[]int{1, 2, 3, 3}, []int{2, 2, 2, 2}, 18},
		{[]int{1, 1, 2, 2, 2}, []int{3, 3, 2, 2, 2}, 18},

		{[]int{0, 1, 2}, []int{2, 2, 1}, 4}, // the weight 0, once
		{[]int{2, 0, 1}, []int{1, 2, 2}, 4},
		{[]int{1, 1, 0}, []int{2, 1, 2}, 3}, // 0 and 1 make 1, behind the other 1
		{[]int{0, 1, 1, 1}, []int{2, 2, 2, 2}, 6},
		{[]int{1, 0, 0}, []int{1, 2, 2}, 1}, // several times
		{[]int{0, 1, 0}, []int{2, 1, 2}, 1},
		{[]int{0, 0, 1, 1}, []int{3, 3, 2, 1}, 3},
		{[]int{0, 0, 0, 1}, []int{3, 3, 2, 1}, 1},
		{[]int{0, 0}, []int{1, 1}, 0}, // nothing but zeros
		{[]int{0, 0, 0}, []int{2, 2, 1}, 0},
		{[]int{0, 0, 0, 0}, []int{2, 2, 2, 2}, 0},
		{[]int{0, 0, 0, 0, 0}, []int{3, 3, 2, 2, 2}, 0},

		{[]int{1, 2, 3, 4, 5}, []int{3, 3, 2, 2, 2}, 33}, // in increasing order
		{[]int{5, 4, 3, 2, 1}, []int{2, 2, 2, 3, 3}, 33}, // in decreasing order
		{[]int{5, 9, 12, 13, 16, 45}, []int{4, 4, 3, 3, 3, 1}, 224},
		{[]int{45, 16, 13, 12, 9, 5}, []int{1, 3, 3, 3, 4, 4}, 224},
	} {
		compareAll(t, c.weights, c.lengths, c.cost)
	}
}

// From the third on, each of these weights is heavier than all weights up to the last but
// one before it, so that a single tree takes in one weight at a time.
func TestLongestCodes(t *testing.T) {
	lengths := []int{9, 9, 8, 7, 6, 5, 4, 3, 2, 1}
	backwards := []int{1, 2, 3, 4, 5, 6, 7, 8, 9, 9}
	for _, weights := range [][]int{
		{1, 1, 2, 4, 8, 16, 32, 64, 128, 256},
		{1, 1, 2, 3, 5, 8, 13, 21, 34, 55},
		{0, 1, 2, 4, 8, 16, 32, 64, 128, 256},
		{0, 0, 1, 2, 4, 8, 16, 32, 64, 128},
		{3, 3, 7, 14, 28, 56, 112, 224, 448, api.MaxWeight},
	} {
		cost := costOf(weights, lengths)
		compareAll(t, weights, lengths, cost)
		slices.Reverse(weights)
		compareAll(t, weights, backwards, cost)
	}
	compareCost(t, []int{1, 1, 2, 4, 8, 16, 32, 64, 128, 256}, 1022)
}

func TestMaxKinds(t *testing.T) {
	const n, most = api.MaxKinds, api.MaxWeight
	equal := []int{4, 4, 4, 4, 3, 3, 3, 3, 3, 3}
	compareAll(t, make([]int, n), equal, 0)
	compareAll(t, slices.Repeat([]int{1}, n), equal, 34)
	compareAll(t, slices.Repeat([]int{most}, n), equal, 34*most)
	compareAll(t, slices.Repeat([]int{most}, n-1), []int{4, 4, 3, 3, 3, 3, 3, 3, 3}, 29*most)
	compareAll(t, []int{1, 2, 3, 4, 5, 6, 7, 8, 9, 10}, []int{5, 5, 4, 4, 4, 3, 3, 3, 3, 2}, 173)
	compareAll(t, []int{10, 9, 8, 7, 6, 5, 4, 3, 2, 1}, []int{2, 3, 3, 3, 3, 4, 4, 4, 5, 5}, 173)
	compareAll(t, append(make([]int, n-1), most), []int{5, 5, 4, 4, 4, 4, 4, 4, 4, 1}, most)
}

func TestMaxWeight(t *testing.T) {
	const most = api.MaxWeight
	compareAll(t, []int{most, most - 1, 1}, []int{1, 2, 2}, 3*most)
	compareAll(t, []int{1, most, most}, []int{2, 2, 1}, 3*most+2)
	compareAll(t, []int{most, 0, 0}, []int{1, 2, 2}, most)
	compareAll(t, []int{0, 0, most}, []int{2, 2, 1}, most)
	compareAll(t, []int{0, most, 0}, []int{2, 1, 2}, most)
	compareAll(t, []int{most, most, most}, []int{2, 2, 1}, 5*most)
}

func TestAllShortLists(t *testing.T) {
	for _, weights := range slices.Concat(
		sample.Lists([]int{0, 1}, api.MaxKinds)[1:],
		sample.Lists([]int{0, 1, 2}, 8)[1:],
		sample.Lists([]int{1, 2, 3, 4, 7}, 6)[1:],
		sample.Lists([]int{0, 1, 499, 500, 999, api.MaxWeight}, 5)[1:],
	) {
		lengths := longByDefinition(weights)
		compareAll(t, weights, lengths, costOf(weights, lengths))
	}
}

// No tree is cheaper, whichever of several equal trees are joined.
func TestCostIsLeast(t *testing.T) {
	for _, weights := range slices.Concat(
		sample.Lists([]int{0, 1, 2, 3, 6}, 5)[1:],
		[][]int{{1, 1, 2, 3, 5, 8}, {13, 1, 7, 7, 2, 9}, {1000, 999, 3, 0, 500, 4}, {4, 4, 4, 4, 4, 4, 4}},
	) {
		compareCost(t, weights, cheapest(weights))
	}
}

// A tree whose inner nodes all have two children leaves no code unused.
func TestCodesAreFull(t *testing.T) {
	for _, weights := range sample.Lists([]int{0, 1, 2, 5, 11}, 6)[1:] {
		lengths, err := Long(weights)
		if err != nil {
			t.Fatalf("Long(%v): error %v, want none", weights, err)
		}
		const whole = 1 << api.MaxKinds
		sum := 0
		for _, length := range lengths {
			sum += whole >> length
		}
		if sum != whole {
			t.Fatalf("Long(%v) = %v are not the code lengths of a tree", weights, lengths)
		}
	}
}

func TestNoWeights(t *testing.T) {
	compareError(t, nil, api.ErrNone)
	compareError(t, []int{}, api.ErrNone)
	compareError(t, []int{1, -1}[:0], api.ErrNone)
}

// One weight is wrong, at any place, or several are.
func TestOutOfRange(t *testing.T) {
	wrong := sample.Outside(0, api.MaxWeight)
	for _, weights := range [][]int{{0}, {0, api.MaxWeight}, {1, 1, 1}, sample.Sequence(0, 1, api.MaxKinds)} {
		for replaced := range sample.Replaced(weights, wrong) {
			compareError(t, replaced, api.ErrRange)
		}
	}
	compareError(t, []int{-1, 0, api.MaxWeight + 1}, api.ErrRange)
	compareError(t, slices.Repeat([]int{-1}, api.MaxKinds), api.ErrRange)
}

// Weights that are out of range, wherever they stand, do not hide the error.
func TestTooManyWeights(t *testing.T) {
	for _, n := range []int{api.MaxKinds + 1, api.MaxKinds + 2, 2 * api.MaxKinds, 1000} {
		compareError(t, make([]int, n), api.ErrFull)
		compareError(t, slices.Repeat([]int{1}, n), api.ErrFull)
		compareError(t, slices.Repeat([]int{api.MaxWeight}, n), api.ErrFull)
		compareError(t, slices.Repeat([]int{-1}, n), api.ErrFull)
		for replaced := range sample.Replaced(make([]int, n), []int{-1, api.MaxWeight + 1}) {
			compareError(t, replaced, api.ErrFull)
		}
	}
}

// Valid and invalid weights are told apart in all their orders.
func TestAllShortListsWithErrors(t *testing.T) {
	outside := func(weight int) bool { return weight < 0 || weight > api.MaxWeight }
	for _, weights := range sample.Lists([]int{-1, 0, api.MaxWeight, api.MaxWeight + 1}, 5)[1:] {
		if slices.ContainsFunc(weights, outside) {
			compareError(t, weights, api.ErrRange)
			continue
		}
		lengths := longByDefinition(weights)
		compareAll(t, weights, lengths, costOf(weights, lengths))
	}
}

// Neither the weights nor the spare capacity behind them may change.
func TestArgumentStays(t *testing.T) {
	for _, all := range [][]int{
		{1, 1, 2, 30, 40},
		{2, 1, 1, 30, 40},
		{5, 9, 4, 30, 40},
		{0, 0, 0, 30, 40},
		{1, -1, 2, 30, 40},
		{1, 1, 1001, 30, 40},
		slices.Concat(slices.Repeat([]int{3}, api.MaxKinds), []int{2, 1}),
		slices.Concat(slices.Repeat([]int{3}, api.MaxKinds+1), []int{2, 1}),
	} {
		before := slices.Clone(all)
		for n := range len(all) {
			weights := all[:n]
			err := Check(weights)
			_, longErr := Long(weights)
			_, costErr := Cost(weights)
			if !slices.Equal(all, before) {
				t.Errorf("the weights %v have become %v", before, all)
			}
			if again := Check(weights); !errors.Is(again, err) || !errors.Is(longErr, err) || !errors.Is(costErr, err) {
				t.Errorf("%v: errors %v, %v, %v, %v, want the same", weights, err, longErr, costErr, again)
			}
		}
	}
}

// A caller may change the lengths that it was given, and the weights that it has given.
func TestLongSharesNoMemory(t *testing.T) {
	weights := []int{1, 1, 2}
	first, _ := Long(weights)
	second, _ := Long(weights)
	clear(first[:cap(first)])
	clear(weights)
	if want := []int{2, 2, 1}; !slices.Equal(second, want) {
		t.Errorf("the lengths have become %v, want %v", second, want)
	}
	compareAll(t, []int{1, 1, 2}, []int{2, 2, 1}, 6)
}
