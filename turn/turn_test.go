package turn

import (
	"errors"
	"slices"
	"strings"
	"testing"

	"letterbeck/api"
	"letterbeck/internal/sample"
)

// leastByDefinition writes all rotations out and takes the first of the smallest ones.
func leastByDefinition(s string) int {
	least := 0
	for i := range len(s) {
		if s[i:]+s[:i] < s[least:]+s[:least] {
			least = i
		}
	}
	return least
}

// rootByDefinition repeats every nonempty prefix, the shortest first.
func rootByDefinition(s string) int {
	for n := 1; n <= len(s); n++ {
		if strings.Repeat(s[:n], len(s)/n) == s {
			return n
		}
	}
	return 0
}

// sameByDefinition compares b with each rotation of a, also with that of the empty string.
func sameByDefinition(a, b string) bool {
	for i := range len(a) + 1 {
		if a[i:]+a[:i] == b {
			return true
		}
	}
	return false
}

func compare(t *testing.T, name, s string, got int, err error, want int) {
	t.Helper()
	if err != nil {
		t.Fatalf("%s(%q): error %v, want none", name, s, err)
	}
	if got != want {
		t.Fatalf("%s(%q) = %d, want %d", name, s, got, want)
	}
}

func compareSame(t *testing.T, a, b string, want bool) {
	t.Helper()
	got, err := Same(a, b)
	if err != nil {
		t.Fatalf("Same(%q, %q): error %v, want none", a, b, err)
	}
	if got != want {
		t.Fatalf("Same(%q, %q) = %t, want %t", a, b, got, want)
	}
}

func compareWithDefinition(t *testing.T, s string) {
	t.Helper()
	least, err := Least(s)
	compare(t, "Least", s, least, err, leastByDefinition(s))
	root, err := Root(s)
	compare(t, "Root", s, root, err, rootByDefinition(s))
}

func TestLeastWrittenOut(t *testing.T) {
	for _, c := range []struct {
		s    string
		want int
	}{
		{"", 0},
		{"a", 0},
		{"\x00", 0},
		{"\xff", 0},
		{"aa", 0},
		{"aaaaaaa", 0},
		{strings.Repeat("z", api.MaxLen), 0},
		{"ab", 0},
		{"abc", 0},    // its own smallest rotation
		{"aabab", 0},  // the same, with a close second
		{"abaabb", 2}, // "aabbab" before "abaabb"
		{"bca", 2},
		{"ba", 1},
		{"baa", 1},
		{"aab", 0},
		{"aba", 2}, // over the end
		{"abaa", 2},
		{"abac", 0},
		{"acab", 2},
		{"baba", 1},   // 1 and 3
		{"abab", 0},   // 0 and 2
		{"cabcab", 1}, // 1 and 4
		{"bcabcabca", 2},
		{"bbbbba", 5},
		{"banana", 5},
		{"mississippi", 10},
		{"aAa", 1}, // "Aaa" by the numbers of the bytes
		{"a\x80", 0},
		{"\x80a", 1}, // bytes are not negative
		{"\xff\x00\x7f", 1},
		{"\x00\xff\x00", 2},
		{"éa", 2},
		{"\xa9\xc3", 0}, // of bytes, not of runes
		{"éé", 1},       // inside the first rune
		{strings.Repeat("b", api.MaxLen-1) + "a", api.MaxLen - 1},
		{"a" + strings.Repeat("b", api.MaxLen-1), 0},
		{strings.Repeat("a", api.MaxLen-1) + "b", 0},
		{"b" + strings.Repeat("a", api.MaxLen-1), 1},
	} {
		got, err := Least(c.s)
		compare(t, "Least", c.s, got, err, c.want)
	}
}

func TestRootWrittenOut(t *testing.T) {
	for _, c := range []struct {
		s    string
		want int
	}{
		{"", 0},
		{"a", 1},
		{"\x00", 1},
		{"aa", 1},
		{"aaaaaaa", 1},
		{strings.Repeat("z", api.MaxLen), 1},
		{"ab", 2},
		{"abc", 3},
		{"aab", 3},
		{"aba", 3}, // primitive with a border
		{"ababa", 5},
		{"abaaba", 3},
		{"abababa", 7},
		{"abab", 2},
		{"ababab", 2},
		{"abababab", 2}, // not 4
		{"aabaab", 3},
		{"aabaabaab", 3},
		{"aabaabaa", 8}, // almost a repetition: a byte is missing
		{"aabaabaaba", 10},
		{"aabaabaac", 9}, // almost a repetition: the last byte differs
		{"cabaabaab", 9}, // the first byte differs
		{"aabacbaab", 9}, // one inside differs
		{"abcdabcdabc", 11},
		{"aaaaab", 6},
		{"abba", 4},
		{"aAaA", 2},
		{"éé", 2}, // of bytes, not of runes
		{"éè", 4},
		{"\xff\x00\xff\x00", 2},
		{"\xff\x7f", 2},
		{strings.Repeat("ab", api.MaxLen/2), 2},
		{strings.Repeat("ab", api.MaxLen/2)[1:], api.MaxLen - 1},
		{strings.Repeat("abcabd", api.MaxLen/6), 6},
		{strings.Repeat("aaaaaaaaaaab", api.MaxLen/12), 12},
		{strings.Repeat("a", api.MaxLen-1) + "b", api.MaxLen},
	} {
		got, err := Root(c.s)
		compare(t, "Root", c.s, got, err, c.want)
	}
}

func TestSameWrittenOut(t *testing.T) {
	long := "abcdefghijklmnopqrstuvwx"
	for _, c := range []struct {
		a, b string
		want bool
	}{
		{"", "", true},
		{"", "a", false},
		{"a", "", false},
		{"a", "a", true},
		{"a", "b", false},
		{"a", "A", false},
		{"ab", "ba", true},
		{"ab", "ab", true},
		{"ab", "a", false},
		{"a", "aa", false},
		{"aaa", "aa", false}, // a part of a repetition
		{"abab", "ab", false},
		{"ab", "abab", false},
		{"abcabc", "bca", false},
		{"aaaa", "aaaa", true},
		{"abab", "baba", true},
		{"abc", "bca", true},
		{"abc", "cab", true},
		{"abc", "abc", true},
		{"abc", "acb", false}, // the same bytes
		{"abc", "cba", false},
		{"aabb", "abab", false},
		{"aabb", "baab", true},
		{"aababb", "aabbab", false},
		{"abc", "abd", false},
		{"abcd", "bcde", false},
		{"éa", "aé", true},
		{"éé", "\xa9\xc3\xa9\xc3", true}, // inside a rune
		{"éè", "èé", true},
		{"éè", "\xc3\xc3\xa9\xa8", false},
		{"\x00\xff", "\xff\x00", true},
		{"\x00\xff", "\x00\xfe", false},
		{"\xff", "\xfe", false}, // no UTF-8 in either
		{long, long, true},
		{long, long[23:] + long[:23], true},
		{long, long[1:] + long[:1], true},
		{long, long[:22] + "xw", false},
		{long, long[:23], false},
		{long, long[1:], false},
	} {
		compareSame(t, c.a, c.b, c.want)
	}
}

func TestAllShortStrings(t *testing.T) {
	for _, s := range slices.Concat(sample.Strings("ab", 13), sample.Strings("\x00z\xff", 8)) {
		compareWithDefinition(t, s)
	}
}

func TestAllPairsOfShortStrings(t *testing.T) {
	for _, l := range [][]string{sample.Strings("ab", 8), sample.Strings("\x00z\xff", 5)} {
		for a, b := range sample.Pairs(l, l) {
			compareSame(t, a, b, sameByDefinition(a, b))
		}
	}
}

func TestStringsOfMaxLen(t *testing.T) {
	for _, s := range sample.Strings("ab", 8)[1:] {
		long := strings.Repeat(s, api.MaxLen)
		compareWithDefinition(t, long[:api.MaxLen])
		compareWithDefinition(t, long[:api.MaxLen-1])
		compareWithDefinition(t, long[:api.MaxLen-1]+"c")
		compareWithDefinition(t, "c"+long[:api.MaxLen-1])
		compareWithDefinition(t, long[:api.MaxLen-1]+"A")
		compareWithDefinition(t, long[:api.MaxLen/2]+"c"+long[:api.MaxLen/2-1])
	}
}

// Rotating a string changes neither its rotations nor its root.
func TestRotations(t *testing.T) {
	for _, part := range sample.Strings("ab", 8)[1:] {
		s := strings.Repeat(part, api.MaxLen/len(part))
		root := rootByDefinition(s)
		least := leastByDefinition(s)
		for i := range len(s) {
			turned := s[i:] + s[:i]
			compareSame(t, s, turned, true)
			compareSame(t, turned, s, true)
			compareSame(t, s, turned[:len(s)-1]+"c", false)
			got, err := Root(turned)
			compare(t, "Root", turned, got, err, root)
			// The smallest rotation is found again, before the first repetition of the root.
			got, err = Least(turned)
			compare(t, "Least", turned, got, err, ((least-i)%root+root)%root)
		}
	}
}

func TestTooLong(t *testing.T) {
	for _, s := range []string{
		strings.Repeat("a", api.MaxLen+1),
		"b" + strings.Repeat("a", api.MaxLen),
		strings.Repeat("ab", api.MaxLen),
		strings.Repeat("é", api.MaxLen/2+1), // fewer runes than MaxLen, but more bytes
		strings.Repeat("\x00", 100_000),
	} {
		for name, f := range map[string]func(string) (int, error){"Least": Least, "Root": Root} {
			got, err := f(s)
			if !errors.Is(err, api.ErrFull) || got != 0 {
				t.Errorf("%s of %d bytes = %d, %v, want 0, ErrFull", name, len(s), got, err)
			}
		}
		for _, other := range []string{"", "a", s[:api.MaxLen], s, s[1:] + s[:1], s + "a"} {
			checkSameTooLong(t, s, other)
			checkSameTooLong(t, other, s)
		}
	}
}

func checkSameTooLong(t *testing.T, a, b string) {
	t.Helper()
	got, err := Same(a, b)
	if !errors.Is(err, api.ErrFull) || got {
		t.Errorf("Same of %d and %d bytes = %t, %v, want false, ErrFull", len(a), len(b), got, err)
	}
}
