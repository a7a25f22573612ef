package zeta

import (
	"errors"
	"slices"
	"strings"
	"testing"

	"letterbeck/api"
	"letterbeck/edges"
	"letterbeck/internal/sample"
)

// commonByDefinition counts the equal first bytes of each suffix and s one by one.
func commonByDefinition(s string) []int {
	var common []int
	for i := range len(s) {
		n := 0
		for n < len(s)-i && s[i+n] == s[n] {
			n++
		}
		common = append(common, n)
	}
	return common
}

func edgesByDefinition(s string) []int {
	var lengths []int
	for n := 1; n < len(s); n++ {
		if strings.HasPrefix(s, s[len(s)-n:]) {
			lengths = append(lengths, n)
		}
	}
	return lengths
}

func compare(t *testing.T, name, s string, got []int, err error, want []int) {
	t.Helper()
	if err != nil {
		t.Fatalf("%s(%q): error %v, want none", name, s, err)
	}
	if !slices.Equal(got, want) {
		t.Fatalf("%s(%q) = %v, want %v", name, s, got, want)
	}
}

func TestOfWrittenOut(t *testing.T) {
	for _, c := range []struct {
		s    string
		want []int
	}{
		{"", nil},
		{"a", []int{1}},
		{"\x00", []int{1}},
		{"ab", []int{2, 0}},
		{"aa", []int{2, 1}},
		{"aab", []int{3, 1, 0}},
		{"aaa", []int{3, 2, 1}},
		{"abab", []int{4, 0, 2, 0}},
		{"aabaaab", []int{7, 1, 0, 2, 3, 1, 0}},
		{"abacabab", []int{8, 0, 1, 0, 3, 0, 2, 0}},
		{"aabxaabxcaabxaabxay", []int{19, 1, 0, 0, 4, 1, 0, 0, 0, 8, 1, 0, 0, 5, 1, 0, 0, 1, 0}},
		{"\x00\xff\x00\x00\xff", []int{5, 0, 1, 2, 0}},
		{"éé", []int{4, 0, 2, 0}},
		{"éè", []int{4, 0, 1, 0}}, // the two letters have their first byte in common
		{"ab" + strings.Repeat("c", api.MaxLen-2), append([]int{api.MaxLen}, make([]int, api.MaxLen-1)...)},
	} {
		got, err := Of(c.s)
		compare(t, "Of", c.s, got, err, c.want)
	}
}

func TestEdgesWrittenOut(t *testing.T) {
	for _, c := range []struct {
		s    string
		want []int
	}{
		{"", nil},
		{"a", nil},
		{"ab", nil},
		{"aab", nil}, // the suffix "ab" begins as s does, but is no prefix
		{"aa", []int{1}},
		{"aaa", []int{1, 2}},
		{"abab", []int{2}},
		{"ababa", []int{1, 3}},
		{"abacaba", []int{1, 3}},
		{"abaababa", []int{1, 3}},
		{"\x00\xff\x00", []int{1}},
		{"éé", []int{2}},
		{strings.Repeat("ab", api.MaxLen/2), []int{2, 4, 6, 8, 10, 12, 14, 16, 18, 20, 22}},
	} {
		got, err := Edges(c.s)
		compare(t, "Edges", c.s, got, err, c.want)
	}
}

func compareWithDefinition(t *testing.T, s string) {
	t.Helper()
	common, err := Of(s)
	compare(t, "Of", s, common, err, commonByDefinition(s))
	lengths, err := Edges(s)
	compare(t, "Edges", s, lengths, err, edgesByDefinition(s))
}

func TestAllShortStrings(t *testing.T) {
	for _, s := range slices.Concat(sample.Strings("ab", 12), sample.Strings("\x00z\xff", 8)) {
		compareWithDefinition(t, s)
	}
}

func TestStringsOfMaxLen(t *testing.T) {
	for _, s := range sample.Strings("ab", 8)[1:] {
		long := strings.Repeat(s, api.MaxLen)
		compareWithDefinition(t, long[:api.MaxLen])
		compareWithDefinition(t, long[:api.MaxLen-1]+"b")
		compareWithDefinition(t, long[:api.MaxLen/2]+"c"+long[:api.MaxLen/2-1])
	}
}

// The nonempty proper suffixes that are prefixes are the nonempty borders.
func TestEdgesAreTheBorders(t *testing.T) {
	for _, s := range sample.Strings("ab", 12) {
		want, err := edges.All(s)
		if err != nil {
			t.Fatalf("edges.All(%q): error %v", s, err)
		}
		got, err := Edges(s)
		compare(t, "Edges", s, got, err, want)
	}
}

func TestTooLong(t *testing.T) {
	for _, s := range []string{
		strings.Repeat("a", api.MaxLen+1),
		strings.Repeat("ab", api.MaxLen),
		strings.Repeat("é", api.MaxLen/2+1), // fewer runes than MaxLen, but more bytes
		strings.Repeat("\x00", 100_000),
	} {
		for name, f := range map[string]func(string) ([]int, error){"Of": Of, "Edges": Edges} {
			got, err := f(s)
			if !errors.Is(err, api.ErrFull) {
				t.Errorf("%s of %d bytes: error %v, want ErrFull", name, len(s), err)
			}
			if len(got) != 0 {
				t.Errorf("%s of %d bytes: %v with an error", name, len(s), got)
			}
		}
	}
}

func TestResultsAreNewMemory(t *testing.T) {
	for name, f := range map[string]func(string) ([]int, error){"Of": Of, "Edges": Edges} {
		first, _ := f("aabaaabaa")
		want := slices.Clone(first)
		second, _ := f("aabaaabaa")
		for i := range first {
			first[i] = -1
		}
		third, _ := f("aabaaabaa")
		if !slices.Equal(second, want) || !slices.Equal(third, want) {
			t.Errorf("%s: %v and %v after a change of another result, want %v", name, second, third, want)
		}
	}
}
