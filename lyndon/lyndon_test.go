package lyndon

import (
	"errors"
	"slices"
	"strings"
	"testing"

	"letterbeck/api"
	"letterbeck/internal/sample"
)

// isByDefinition compares s with each of its nonempty proper suffixes.
func isByDefinition(s string) bool {
	for i := 1; i < len(s); i++ {
		if s[i:] <= s {
			return false
		}
	}
	return s != ""
}

// factorizationsByDefinition returns the lengths of the factors for every way to write s
// as Lyndon words that are not larger than last, none of them smaller than the next one.
func factorizationsByDefinition(s, last string) [][]int {
	if s == "" {
		return [][]int{nil}
	}
	var all [][]int
	for n := 1; n <= len(s); n++ {
		if s[:n] > last || !isByDefinition(s[:n]) {
			continue
		}
		for _, rest := range factorizationsByDefinition(s[n:], s[:n]) {
			all = append(all, slices.Concat([]int{n}, rest))
		}
	}
	return all
}

// isFactorization checks each factor of s, and that none is smaller than the next one.
func isFactorization(s string, lengths []int) bool {
	last := ""
	for i, n := range lengths {
		if n < 1 || n > len(s) || !isByDefinition(s[:n]) || i > 0 && last < s[:n] {
			return false
		}
		last, s = s[:n], s[n:]
	}
	return s == ""
}

func compareParts(t *testing.T, s string, want []int) {
	t.Helper()
	got, err := Parts(s)
	if err != nil {
		t.Fatalf("Parts(%q): error %v, want none", s, err)
	}
	if !slices.Equal(got, want) {
		t.Fatalf("Parts(%q) = %v, want %v", s, got, want)
	}
}

func compareIs(t *testing.T, s string, want bool) {
	t.Helper()
	got, err := Is(s)
	if err != nil {
		t.Fatalf("Is(%q): error %v, want none", s, err)
	}
	if got != want {
		t.Fatalf("Is(%q) = %t, want %t", s, got, want)
	}
}

// compareWithDefinition relies on there being one factorization only, as
// TestFactorizationIsUnique shows.
func compareWithDefinition(t *testing.T, s string) {
	t.Helper()
	got, err := Parts(s)
	if err != nil {
		t.Fatalf("Parts(%q): error %v, want none", s, err)
	}
	if !isFactorization(s, got) {
		t.Fatalf("Parts(%q) = %v, which is no Lyndon factorization", s, got)
	}
	compareIs(t, s, isByDefinition(s))
}

func TestPartsWrittenOut(t *testing.T) {
	for _, c := range []struct {
		s    string
		want []int
	}{
		{"", nil},
		{"a", []int{1}},
		{"\x00", []int{1}},
		{"\xff", []int{1}},
		{"aa", []int{1, 1}}, // equal factors
		{"aaaaa", []int{1, 1, 1, 1, 1}},
		{"ab", []int{2}},
		{"ba", []int{1, 1}}, // the second one is smaller
		{"abc", []int{3}},   // bytes that rise
		{"abcdefgh", []int{8}},
		{"cba", []int{1, 1, 1}}, // bytes that fall
		{"edcba", []int{1, 1, 1, 1, 1}},
		{"aab", []int{3}},
		{"aabab", []int{5}},
		{"aababb", []int{6}},
		{"abac", []int{4}},
		{"aba", []int{2, 1}}, // rotations of "aab"
		{"baa", []int{1, 1, 1}},
		{"abab", []int{2, 2}}, // a Lyndon word repeated
		{"ababab", []int{2, 2, 2}},
		{"aabaab", []int{3, 3}},
		{"aabaabaab", []int{3, 3, 3}},
		{"aabaa", []int{3, 1, 1}}, // and a beginning of it
		{"aabaabaa", []int{3, 3, 1, 1}},
		{"ababa", []int{2, 2, 1}},
		{"aabaaba", []int{3, 3, 1}},
		{"aababaab", []int{5, 3}},
		{"aabaabab", []int{8}}, // larger than the third repetition
		{"aabaabb", []int{7}},
		{"aabaaa", []int{3, 1, 1, 1}}, // smaller than the second repetition
		{"aabaabaaa", []int{3, 3, 1, 1, 1}},
		{"abaab", []int{2, 3}}, // a shorter factor before a longer one
		{"bababaabaab", []int{1, 2, 2, 3, 3}},
		{"banana", []int{1, 2, 2, 1}},
		{"mississippi", []int{1, 3, 3, 3, 1}},
		{"abcabcabd", []int{9}},
		{"abcabcabb", []int{3, 3, 3}},
		{"aAb", []int{1, 2}}, // by the numbers of the bytes
		{"\x80\x7f", []int{1, 1}},
		{"\x7f\x80", []int{2}}, // bytes are not negative
		{"\x00\xff", []int{2}},
		{"\xff\x00\xff\x00", []int{1, 2, 1}},
		{"é", []int{1, 1}},     // of bytes, not of runes
		{"éé", []int{1, 2, 1}}, // a factor with bytes of two runes
		{"aé", []int{3}},
		{"éa", []int{1, 1, 1}},
		{"éè", []int{1, 2, 1}}, // the same, before a smaller byte
		{"èé", []int{1, 3}},
		{"abcdefghijklmnopqrstuvwx", []int{api.MaxLen}},
		{strings.Repeat("a", api.MaxLen-1) + "b", []int{api.MaxLen}},
		{"a" + strings.Repeat("b", api.MaxLen-1), []int{api.MaxLen}},
		{strings.Repeat("z", api.MaxLen), slices.Repeat([]int{1}, api.MaxLen)},
		{strings.Repeat("ab", api.MaxLen/2), slices.Repeat([]int{2}, api.MaxLen/2)},
	} {
		compareParts(t, c.s, c.want)
	}
}

func TestIsWrittenOut(t *testing.T) {
	for _, c := range []struct {
		s    string
		want bool
	}{
		{"", false},
		{"a", true},
		{"\x00", true},
		{"\xff", true},
		{"aa", false}, // equal bytes: the suffix "a" is smaller
		{"aaaaa", false},
		{"ab", true},
		{"ba", false},
		{"abc", true},
		{"abcdefgh", true},
		{"cba", false},
		{"aab", true},
		{"aba", false}, // rotations of "aab"
		{"baa", false},
		{"aabab", true},
		{"ababa", false}, // rotations of "aabab"
		{"abaab", false},
		{"baaba", false},
		{"babaa", false},
		{"abac", true},
		{"acab", false}, // smaller than "cab" and "b", but not than "ab"
		{"abca", false}, // smaller than "bca" and "ca", but not than "a"
		{"abab", false}, // a Lyndon word repeated
		{"aabaabaab", false},
		{"aabaa", false}, // and a beginning of it
		{"aabaabaa", false},
		{"aabaabab", true}, // and what is larger than a beginning of it
		{"abcabcabd", true},
		{"abcabcabb", false},
		{"aAb", false}, // by the numbers of the bytes
		{"Aab", true},
		{"\x7f\x80", true},
		{"\x80\x7f", false},
		{"\x00\xff", true},
		{"é", false}, // of bytes, not of runes
		{"aé", true},
		{"éè", false},
		{"\xa9\xc3", true},
		{"abcdefghijklmnopqrstuvwx", true},
		{strings.Repeat("a", api.MaxLen-1) + "b", true},
		{strings.Repeat("a", api.MaxLen), false},
		{strings.Repeat("ab", api.MaxLen/2), false},
	} {
		compareIs(t, c.s, c.want)
	}
}

func TestFactorizationIsUnique(t *testing.T) {
	for _, s := range slices.Concat(sample.Strings("ab", 10), sample.Strings("\x00z\xff", 6)) {
		// Each prefix of s is at most s, so s leaves the first factor free.
		all := factorizationsByDefinition(s, s)
		if len(all) != 1 {
			t.Fatalf("%q has %d factorizations, want 1", s, len(all))
		}
		compareParts(t, s, all[0])
	}
}

func TestAllShortStrings(t *testing.T) {
	for _, s := range slices.Concat(sample.Strings("ab", 13), sample.Strings("\x00z\xff", 8), sample.Strings("abcd", 6)) {
		compareWithDefinition(t, s)
	}
}

func TestStringsOfMaxLen(t *testing.T) {
	for _, s := range sample.Strings("ab", 8)[1:] {
		long := strings.Repeat(s, api.MaxLen)
		compareWithDefinition(t, long[:api.MaxLen])
		compareWithDefinition(t, long[:api.MaxLen-1])
		compareWithDefinition(t, long[:api.MaxLen-1]+"c")
		compareWithDefinition(t, "c"+long[:api.MaxLen-1])
		compareWithDefinition(t, long[:api.MaxLen-1]+"A")
		compareWithDefinition(t, "A"+long[:api.MaxLen-1])
		compareWithDefinition(t, long[:api.MaxLen/2]+"c"+long[:api.MaxLen/2-1])
	}
}

// A Lyndon word is the only one of its rotations that is one, and all factors of its
// repetitions are equal.
func TestLyndonWords(t *testing.T) {
	for _, word := range sample.Strings("abc", 8) {
		if !isByDefinition(word) {
			continue
		}
		compareIs(t, word, true)
		for i := 1; i < len(word); i++ {
			compareIs(t, word[i:]+word[:i], false)
		}
		for n := 1; n*len(word) <= api.MaxLen; n++ {
			s := strings.Repeat(word, n)
			compareParts(t, s, slices.Repeat([]int{len(word)}, n))
			compareIs(t, s, n == 1)
		}
	}
}

func TestTooLong(t *testing.T) {
	for _, s := range []string{
		strings.Repeat("a", api.MaxLen+1),
		strings.Repeat("a", api.MaxLen) + "b", // a Lyndon word
		"b" + strings.Repeat("a", api.MaxLen),
		strings.Repeat("ab", api.MaxLen),
		strings.Repeat("é", api.MaxLen/2+1), // fewer runes than MaxLen, but more bytes
		strings.Repeat("\x00", 100_000),
	} {
		lengths, err := Parts(s)
		if !errors.Is(err, api.ErrFull) || len(lengths) != 0 {
			t.Errorf("Parts of %d bytes = %v, %v, want none, ErrFull", len(s), lengths, err)
		}
		is, err := Is(s)
		if !errors.Is(err, api.ErrFull) || is {
			t.Errorf("Is of %d bytes = %t, %v, want false, ErrFull", len(s), is, err)
		}
	}
}

func TestResultsAreNewMemory(t *testing.T) {
	first, _ := Parts("bab")
	first[0], first[1] = 7, 7
	compareParts(t, "bab", []int{1, 2})
	compareIs(t, "bab", false)
}
