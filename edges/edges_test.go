package edges

import (
	"errors"
	"slices"
	"strings"
	"testing"

	"letterbeck/api"
	"letterbeck/internal/sample"
)

// bordersByDefinition compares every proper prefix with the suffix of its length.
func bordersByDefinition(s string) []int {
	var lengths []int
	for n := 1; n < len(s); n++ {
		if s[:n] == s[len(s)-n:] {
			lengths = append(lengths, n)
		}
	}
	return lengths
}

func longestByDefinition(s string) []int {
	var longest []int
	for n := 1; n <= len(s); n++ {
		long := 0
		if l := bordersByDefinition(s[:n]); len(l) > 0 {
			long = l[len(l)-1]
		}
		longest = append(longest, long)
	}
	return longest
}

func compare(t *testing.T, name, s string, got []int, err error, want []int) {
	t.Helper()
	if err != nil {
		t.Fatalf("%s(%q): error %v, want none", name, s, err)
	}
	if !slices.Equal(got, want) {
		t.Fatalf("%s(%q) = %v, want %v", name, s, got, want)
	}
}

func numbers(from, to int) []int {
	var l []int
	for i := from; i <= to; i++ {
		l = append(l, i)
	}
	return l
}

func TestOfWrittenOut(t *testing.T) {
	for _, c := range []struct {
		s    string
		want []int
	}{
		{"", nil},
		{"a", []int{0}},
		{"\x00", []int{0}},
		{"ab", []int{0, 0}},
		{"aa", []int{0, 1}},
		{"abab", []int{0, 0, 1, 2}},
		{"abcabd", []int{0, 0, 0, 1, 2, 0}},
		{"aabaaab", []int{0, 1, 0, 1, 2, 2, 3}},
		{"abacabab", []int{0, 0, 1, 0, 1, 2, 3, 2}},
		{"\x00\xff\x00\x00\xff", []int{0, 0, 1, 1, 2}},
		{"éé", []int{0, 0, 1, 2}},
		{strings.Repeat("a", api.MaxLen), numbers(0, api.MaxLen-1)},
	} {
		got, err := Of(c.s)
		compare(t, "Of", c.s, got, err, c.want)
	}
}

func TestAllWrittenOut(t *testing.T) {
	for _, c := range []struct {
		s    string
		want []int
	}{
		{"", nil},
		{"a", nil},
		{"ab", nil},
		{"aa", []int{1}},
		{"aaa", []int{1, 2}},
		{"abab", []int{2}},
		{"abaababa", []int{1, 3}},
		{"abacaba", []int{1, 3}},
		{"ababa", []int{1, 3}},
		{"\x00\xff\x00", []int{1}},
		{"éé", []int{2}},
		{strings.Repeat("a", api.MaxLen), numbers(1, api.MaxLen-1)},
		{strings.Repeat("ab", api.MaxLen/2), []int{2, 4, 6, 8, 10, 12, 14, 16, 18, 20, 22}},
	} {
		got, err := All(c.s)
		compare(t, "All", c.s, got, err, c.want)
	}
}

func compareWithDefinition(t *testing.T, s string) {
	t.Helper()
	longest, err := Of(s)
	compare(t, "Of", s, longest, err, longestByDefinition(s))
	lengths, err := All(s)
	compare(t, "All", s, lengths, err, bordersByDefinition(s))
}

func TestAllShortStrings(t *testing.T) {
	for _, s := range slices.Concat(sample.Strings("ab", 11), sample.Strings("\x00z\xff", 7)) {
		compareWithDefinition(t, s)
	}
}

func TestStringsOfMaxLen(t *testing.T) {
	for _, s := range sample.Strings("ab", 7)[1:] {
		compareWithDefinition(t, strings.Repeat(s, api.MaxLen)[:api.MaxLen])
		compareWithDefinition(t, strings.Repeat(s, api.MaxLen)[:api.MaxLen-1]+"b")
	}
}

func TestTooLong(t *testing.T) {
	for _, s := range []string{
		strings.Repeat("a", api.MaxLen+1),
		strings.Repeat("ab", api.MaxLen),
		strings.Repeat("é", api.MaxLen/2+1), // fewer runes than MaxLen, but more bytes
		strings.Repeat("\x00", 100_000),
	} {
		for name, f := range map[string]func(string) ([]int, error){"Of": Of, "All": All} {
			got, err := f(s)
			if !errors.Is(err, api.ErrFull) {
				t.Errorf("%s of %d bytes: error %v, want ErrFull", name, len(s), err)
			}
			if len(got) != 0 {
				t.Errorf("%s of %d bytes: %v with an error", name, len(s), got)
			}
		}
	}
}

func TestResultsAreNewMemory(t *testing.T) {
	for name, f := range map[string]func(string) ([]int, error){"Of": Of, "All": All} {
		first, _ := f("aabaaab")
		want := slices.Clone(first)
		second, _ := f("aabaaab")
		for i := range first {
			first[i] = -1
		}
		third, _ := f("aabaaab")
		if !slices.Equal(second, want) || !slices.Equal(third, want) {
			t.Errorf("%s: %v and %v after a change of another result, want %v", name, second, third, want)
		}
	}
}
