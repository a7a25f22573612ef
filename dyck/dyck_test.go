package dyck

import (
	"errors"
	"slices"
	"strings"
	"testing"

	"letterbeck/api"
	"letterbeck/internal/sample"
)

// catalan are the numbers of balanced strings with 0 to MaxPairs pairs.
var catalan = []int{1, 1, 2, 5, 14, 42, 132, 429, 1430}

// isBalanced tells whether nothing is left if pairs that have nothing between them are
// removed again and again.
func isBalanced(s string) bool {
	for strings.Contains(s, "()") {
		s = strings.ReplaceAll(s, "()", "")
	}
	return s == ""
}

// balancedByDefinition returns the balanced strings with at most MaxPairs pairs, in
// lexicographic order for each number of pairs.
func balancedByDefinition() [][]string {
	all := make([][]string, api.MaxPairs+1)
	for _, s := range sample.Strings("()", 2*api.MaxPairs) {
		if isBalanced(s) {
			all[len(s)/2] = append(all[len(s)/2], s)
		}
	}
	for _, some := range all {
		slices.Sort(some)
	}
	return all
}

// closesTooMuch tells whether more parentheses are closed than opened in s.
func closesTooMuch(s string) bool {
	return strings.Count(s, ")") > strings.Count(s, "(")
}

// errorByDefinition returns the error of Check, and nil if there is none.
func errorByDefinition(s string) error {
	if len(s) > 2*api.MaxPairs {
		return api.ErrFull
	}
	for i := range len(s) {
		if !strings.Contains("()", s[i:i+1]) {
			return api.ErrSyntax
		}
		if closesTooMuch(s[:i+1]) {
			return api.ErrState
		}
	}
	if strings.Count(s, "(") != strings.Count(s, ")") {
		return api.ErrState
	}
	return nil
}

// compareError checks both functions that take a string on one that has this error.
func compareError(t *testing.T, s string, want error) {
	t.Helper()
	if err := Check(s); !errors.Is(err, want) {
		t.Fatalf("Check(%q) = %v, want %v", s, err, want)
	}
	if place, err := Place(s); place != 0 || !errors.Is(err, want) {
		t.Fatalf("Place(%q) = %d, %v, want 0, %v", s, place, err, want)
	}
}

// compareRank checks a balanced string, its number of pairs and its rank.
func compareRank(t *testing.T, s string, pairs, want int) {
	t.Helper()
	if err := Check(s); err != nil {
		t.Fatalf("Check(%q) = %v, want no error", s, err)
	}
	if place, err := Place(s); place != want || err != nil {
		t.Fatalf("Place(%q) = %d, %v, want %d", s, place, err, want)
	}
	if got, err := At(pairs, want); got != s || err != nil {
		t.Fatalf("At(%d, %d) = %q, %v, want %q", pairs, want, got, err, s)
	}
}

// compareWithDefinition checks the error of a string, or that it has none; its rank is
// left to other tests.
func compareWithDefinition(t *testing.T, s string) {
	t.Helper()
	if want := errorByDefinition(s); want != nil {
		compareError(t, s, want)
		return
	}
	if err := Check(s); err != nil {
		t.Fatalf("Check(%q) = %v, want no error", s, err)
	}
	if place, err := Place(s); err != nil {
		t.Fatalf("Place(%q) = %d, %v, want no error", s, place, err)
	}
}

func manyWithoutError(t *testing.T, pairs int) int {
	t.Helper()
	many, err := Many(pairs)
	if err != nil {
		t.Fatalf("Many(%d): error %v, want none", pairs, err)
	}
	return many
}

func atWithoutError(t *testing.T, pairs, place int) string {
	t.Helper()
	s, err := At(pairs, place)
	if err != nil {
		t.Fatalf("At(%d, %d): error %v, want none", pairs, place, err)
	}
	return s
}

func TestBalancedWrittenOut(t *testing.T) {
	for pairs, all := range [][]string{
		{""},
		{"()"},
		{"(())", "()()"},
		{"((()))", "(()())", "(())()", "()(())", "()()()"},
		{
			"(((())))", "((()()))", "((())())", "((()))()", "(()(()))", "(()()())", "(()())()",
			"(())(())", "(())()()", "()((()))", "()(()())", "()(())()", "()()(())", "()()()()",
		},
	} {
		for place, s := range all {
			compareRank(t, s, pairs, place)
		}
	}
	for place, s := range map[int]string{ // of MaxPairs pairs
		0:    "(((((((())))))))",
		1:    "((((((()()))))))",
		1000: "(())()()()()()()", // the last one that does not begin with a pair
		1001: "()((((((()))))))",
		1428: "()()()()()()(())",
		1429: "()()()()()()()()",
	} {
		compareRank(t, s, api.MaxPairs, place)
	}
}

func TestErrorsWrittenOut(t *testing.T) {
	for _, c := range []struct {
		s    string
		want error
	}{
		{"(", api.ErrState}, // left open
		{"((", api.ErrState},
		{"(()", api.ErrState},
		{"()(", api.ErrState},
		{"()()((())", api.ErrState},
		{"(((((((((", api.ErrState}, // more than MaxPairs, but not too many bytes
		{"((((((((((((((((", api.ErrState},
		{"(((((((()))))))", api.ErrState},
		{"((((((((()))))))", api.ErrState},

		{")", api.ErrState}, // closed too much
		{"))", api.ErrState},
		{"())", api.ErrState},
		{"())(())", api.ErrState},
		{"))))))))))))))))", api.ErrState},
		{"(((((()))))))", api.ErrState},

		{")(", api.ErrState}, // closed too much, although as many are opened
		{"())(", api.ErrState},
		{")()(", api.ErrState},
		{"))((", api.ErrState},
		{"(())))((", api.ErrState},
		{"()()()()()()())(", api.ErrState},
		{"))))))))((((((((", api.ErrState},

		{"x", api.ErrSyntax}, // no parentheses
		{" ", api.ErrSyntax},
		{"\x00", api.ErrSyntax},
		{"\xff", api.ErrSyntax},
		{"'", api.ErrSyntax}, // the bytes next to the parentheses
		{"*", api.ErrSyntax},
		{"[]", api.ErrSyntax},
		{"() ()", api.ErrSyntax},
		{"()\n", api.ErrSyntax},
		{"(x", api.ErrSyntax},
		{"(()x", api.ErrSyntax},
		{"（）", api.ErrSyntax}, // wide parentheses, of three bytes each
		{"(é)", api.ErrSyntax},
		{"\xa8\xa9", api.ErrSyntax}, // the parentheses with the highest bit
		{"(((((((xx)))))))", api.ErrSyntax},
		{"xxxxxxxxxxxxxxxx", api.ErrSyntax},

		{"x)", api.ErrSyntax}, // the first byte with an error decides
		{")x", api.ErrState},
		{"\x00)", api.ErrSyntax},
		{")\x00", api.ErrState},
		{"\xff)", api.ErrSyntax},
		{")\xff", api.ErrState},
		{"()x)", api.ErrSyntax},
		{"())x", api.ErrState},
		{"(x))", api.ErrSyntax},
		{")(x", api.ErrState},
		{"x)(", api.ErrSyntax},
	} {
		compareError(t, c.s, c.want)
	}
}

func TestManyWrittenOut(t *testing.T) {
	for pairs, want := range catalan {
		if many := manyWithoutError(t, pairs); many != want {
			t.Errorf("Many(%d) = %d, want %d", pairs, many, want)
		}
	}
	if most := len(catalan) - 1; most != api.MaxPairs {
		t.Errorf("compared up to %d, want %d", most, api.MaxPairs)
	}
}

func TestPairsOutOfRange(t *testing.T) {
	for _, pairs := range sample.Outside(0, api.MaxPairs) {
		if many, err := Many(pairs); many != 0 || !errors.Is(err, api.ErrRange) {
			t.Errorf("Many(%d) = %d, %v, want 0, %v", pairs, many, err, api.ErrRange)
		}
		for _, place := range append(sample.Outside(0, 0), 0) {
			compareOutOfRange(t, pairs, place)
		}
	}
}

func compareOutOfRange(t *testing.T, pairs, place int) {
	t.Helper()
	if s, err := At(pairs, place); s != "" || !errors.Is(err, api.ErrRange) {
		t.Errorf("At(%d, %d) = %q, %v, want nothing, %v", pairs, place, s, err, api.ErrRange)
	}
}

func TestPlaceOutOfRange(t *testing.T) {
	for pairs := range api.MaxPairs + 1 {
		many := manyWithoutError(t, pairs)
		for _, place := range sample.Outside(0, many-1) {
			compareOutOfRange(t, pairs, place)
		}
	}
}

// Each balanced string but the empty one is ( and a balanced string and ) and another one.
func TestManySplit(t *testing.T) {
	for pairs := 1; pairs <= api.MaxPairs; pairs++ {
		want := 0
		for within := range pairs {
			want += manyWithoutError(t, within) * manyWithoutError(t, pairs-1-within)
		}
		if many := manyWithoutError(t, pairs); many != want {
			t.Errorf("Many(%d) = %d, want %d", pairs, many, want)
		}
	}
}

func TestAllBalanced(t *testing.T) {
	for pairs, all := range balancedByDefinition() {
		if many := manyWithoutError(t, pairs); many != len(all) {
			t.Errorf("Many(%d) = %d, want %d", pairs, many, len(all))
		}
		for place, s := range all {
			compareRank(t, s, pairs, place)
		}
	}
}

func TestFirstAndLast(t *testing.T) {
	for pairs := range api.MaxPairs + 1 {
		first := strings.Repeat("(", pairs) + strings.Repeat(")", pairs)
		compareRank(t, first, pairs, 0)
		last := strings.Repeat("()", pairs)
		compareRank(t, last, pairs, manyWithoutError(t, pairs)-1)
	}
}

func TestInOrder(t *testing.T) {
	for pairs := range api.MaxPairs + 1 {
		for place := range manyWithoutError(t, pairs) {
			s := atWithoutError(t, pairs, place)
			if len(s) != 2*pairs || !isBalanced(s) {
				t.Errorf("At(%d, %d) = %q", pairs, place, s)
			}
			if place > 0 && atWithoutError(t, pairs, place-1) >= s {
				t.Errorf("At(%d, %d) = %q is not greater than the one before", pairs, place, s)
			}
			compareRank(t, s, pairs, place)
		}
	}
}

func TestAllShortStrings(t *testing.T) {
	for _, s := range slices.Concat(
		sample.Strings("()", 2*api.MaxPairs),
		sample.Strings("()x", 9),
		sample.Strings("()\x00*\xff", 6),
	) {
		compareWithDefinition(t, s)
	}
}

func TestEachByte(t *testing.T) {
	for _, s := range []string{
		"", "(", ")", "()", ")(", "(())()", "())(()", "((((((((", "))))))))", "()(()())((())())", ")()()()(()()()((",
	} {
		for i := range len(s) + 1 {
			for b := range 256 {
				one := string([]byte{byte(b)})
				compareWithDefinition(t, s[:i]+one)
				compareWithDefinition(t, s[:i]+one+s[i:])
				compareWithDefinition(t, s[:i]+one+s[min(i+1, len(s)):])
			}
		}
	}
}

func TestOneByteRepeated(t *testing.T) {
	for b := range 256 {
		for n := range 2*api.MaxPairs + 1 {
			compareWithDefinition(t, sample.Repeated(byte(b), n))
		}
	}
}

func TestTooLong(t *testing.T) {
	const n = 2 * api.MaxPairs
	for _, s := range slices.Concat(sample.TooLong(n), []string{
		strings.Repeat("()", api.MaxPairs+1), // balanced
		strings.Repeat("(", api.MaxPairs+1) + strings.Repeat(")", api.MaxPairs+1),
		strings.Repeat("()", 50_000),
		strings.Repeat("()", api.MaxPairs) + "(", // left open
		strings.Repeat("(", n+1),
		strings.Repeat("()", api.MaxPairs) + ")", // closed too much
		strings.Repeat(")", n+1),
		strings.Repeat(")(", api.MaxPairs+1),
		strings.Repeat("()", api.MaxPairs) + "x", // no parentheses
		"x" + strings.Repeat("()", api.MaxPairs),
		"\x00" + strings.Repeat(")", n),
		")" + strings.Repeat("\xff", n),
	}) {
		compareError(t, s, api.ErrFull)
	}
}
