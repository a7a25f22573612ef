package mirror

import (
	"errors"
	"slices"
	"strings"
	"testing"

	"letterbeck/api"
	"letterbeck/internal/sample"
)

// countsByDefinition goes through all palindromes whose length has the remainder by 2.
func countsByDefinition(s string, remainder int) []int {
	counts := make([]int, len(s))
	for begin := range len(s) {
		for end := begin + 1; end <= len(s); end++ {
			if (end-begin)%2 == remainder && s[begin:end] == sample.Reversed(s[begin:end]) {
				counts[(begin+end)/2]++
			}
		}
	}
	return counts
}

// longestByDefinition tries long substrings before short ones, each from the left.
func longestByDefinition(s string) (at, long int) {
	for n := len(s); n > 0; n-- {
		for i := range len(s) - n + 1 {
			if s[i:i+n] == sample.Reversed(s[i:i+n]) {
				return i, n
			}
		}
	}
	return 0, 0
}

func compare(t *testing.T, name, s string, got []int, err error, want []int) {
	t.Helper()
	if err != nil {
		t.Fatalf("%s(%q): error %v, want none", name, s, err)
	}
	if !slices.Equal(got, want) {
		t.Fatalf("%s(%q) = %v, want %v", name, s, got, want)
	}
}

func compareLongest(t *testing.T, s string, wantAt, wantLong int) {
	t.Helper()
	at, long, err := Longest(s)
	if err != nil {
		t.Fatalf("Longest(%q): error %v, want none", s, err)
	}
	if at != wantAt || long != wantLong {
		t.Fatalf("Longest(%q) = %d, %d, want %d, %d", s, at, long, wantAt, wantLong)
	}
}

func TestOddWrittenOut(t *testing.T) {
	for _, c := range []struct {
		s    string
		want []int
	}{
		{"", nil},
		{"a", []int{1}},
		{"\x00", []int{1}},
		{"ab", []int{1, 1}},
		{"aa", []int{1, 1}},
		{"aba", []int{1, 2, 1}},
		{"aaa", []int{1, 2, 1}},
		{"aaaa", []int{1, 2, 2, 1}},
		{"aaaaa", []int{1, 2, 3, 2, 1}},
		{"abba", []int{1, 1, 1, 1}},
		{"abcdef", []int{1, 1, 1, 1, 1, 1}},
		{"abacaba", []int{1, 2, 1, 4, 1, 2, 1}},
		{"ababa", []int{1, 2, 3, 2, 1}},
		{"abacd", []int{1, 2, 1, 1, 1}}, // at the first byte
		{"dcaba", []int{1, 1, 1, 2, 1}}, // at the last byte
		{"xabay", []int{1, 1, 2, 1, 1}}, // at neither
		{"abcbabcbx", []int{1, 1, 3, 1, 4, 1, 2, 1, 1}},
		{"babcbabcbaccba", []int{1, 2, 1, 4, 1, 5, 1, 3, 1, 1, 1, 1, 1, 1}},
		{"aBA", []int{1, 1, 1}},
		{"\xff\x00\xff", []int{1, 2, 1}},
		{"éé", []int{1, 2, 2, 1}},     // of bytes, not of runes
		{"éaé", []int{1, 1, 1, 1, 1}}, // a palindrome of runes only
		{"\xc3a\xc3", []int{1, 2, 1}},
	} {
		got, err := Odd(c.s)
		compare(t, "Odd", c.s, got, err, c.want)
	}
}

func TestEvenWrittenOut(t *testing.T) {
	for _, c := range []struct {
		s    string
		want []int
	}{
		{"", nil},
		{"a", []int{0}},
		{"\x00", []int{0}},
		{"ab", []int{0, 0}},
		{"aa", []int{0, 1}},
		{"aba", []int{0, 0, 0}},
		{"aaa", []int{0, 1, 1}},
		{"aaaa", []int{0, 1, 2, 1}},
		{"aaaaa", []int{0, 1, 2, 2, 1}},
		{"abba", []int{0, 0, 2, 0}},
		{"abcdef", []int{0, 0, 0, 0, 0, 0}},
		{"abccba", []int{0, 0, 0, 3, 0, 0}},
		{"abbacd", []int{0, 0, 2, 0, 0, 0}}, // at the first byte
		{"cdabba", []int{0, 0, 0, 0, 2, 0}}, // at the last byte
		{"xabbay", []int{0, 0, 0, 2, 0, 0}}, // at neither
		{"abbaabba", []int{0, 0, 2, 0, 4, 0, 2, 0}},
		{"abbabba", []int{0, 0, 2, 0, 0, 2, 0}},
		{"babcbabcbaccba", []int{0, 0, 0, 0, 0, 0, 0, 0, 0, 0, 0, 1, 0, 0}},
		{"aA", []int{0, 0}},
		{"\xff\x00\x00\xff", []int{0, 0, 2, 0}},
		{"éé", []int{0, 0, 0, 0}}, // a palindrome of runes only
		{"\xc3\xc3", []int{0, 1}},
	} {
		got, err := Even(c.s)
		compare(t, "Even", c.s, got, err, c.want)
	}
}

func TestLongestWrittenOut(t *testing.T) {
	for _, c := range []struct {
		s        string
		at, long int
	}{
		{"", 0, 0},
		{"a", 0, 1},
		{"\x00", 0, 1},
		{"ab", 0, 1},
		{"aa", 0, 2},
		{"aba", 0, 3},
		{"aaa", 0, 3},
		{"aaaa", 0, 4},
		{"abba", 0, 4},
		{"abcdef", 0, 1}, // the first of the single bytes
		{"abacd", 0, 3},
		{"abbacd", 0, 4},
		{"cdaba", 2, 3},
		{"cdabba", 2, 4},
		{"xabay", 1, 3},
		{"xabbay", 1, 4},
		{"abaxyzcdc", 0, 3},    // two of odd length
		{"xabayzcdcv", 1, 3},   // two of odd length behind the first byte
		{"aabbcc", 0, 2},       // three of even length
		{"xyaabbz", 2, 2},      // two of even length behind the first byte
		{"abab", 0, 3},         // two that overlap
		{"xabababcb", 1, 5},    // two that overlap, and a shorter one
		{"xabbabbay", 1, 7},    // odd, around two even ones
		{"abaxcddc", 4, 4},     // even behind odd
		{"abbaxcdedc", 5, 5},   // odd behind even
		{"abcbaxdeed", 0, 5},   // odd before even
		{"abccbaxdefed", 0, 6}, // even before odd
		{"babcbabcbaccba", 1, 9},
		{"aA", 0, 1},
		{"x\xff\x00\x00\xff", 1, 4},
		{"aéé", 1, 3}, // of bytes, not of runes
	} {
		compareLongest(t, c.s, c.at, c.long)
	}
}

func TestOneByteRepeatedWrittenOut(t *testing.T) {
	s := strings.Repeat("a", api.MaxLen)
	got, err := Odd(s)
	compare(t, "Odd", s, got, err, []int{1, 2, 3, 4, 5, 6, 7, 8, 9, 10, 11, 12, 12, 11, 10, 9, 8, 7, 6, 5, 4, 3, 2, 1})
	got, err = Even(s)
	compare(t, "Even", s, got, err, []int{0, 1, 2, 3, 4, 5, 6, 7, 8, 9, 10, 11, 12, 11, 10, 9, 8, 7, 6, 5, 4, 3, 2, 1})
	compareLongest(t, s, 0, api.MaxLen)
}

func compareWithDefinition(t *testing.T, s string) {
	t.Helper()
	odd, err := Odd(s)
	compare(t, "Odd", s, odd, err, countsByDefinition(s, 1))
	even, err := Even(s)
	compare(t, "Even", s, even, err, countsByDefinition(s, 0))
	at, long := longestByDefinition(s)
	compareLongest(t, s, at, long)
}

func TestAllShortStrings(t *testing.T) {
	for _, s := range slices.Concat(sample.Strings("ab", 12), sample.Strings("\x00z\xff", 8)) {
		compareWithDefinition(t, s)
	}
}

func TestStringsOfMaxLen(t *testing.T) {
	for _, s := range sample.Strings("ab", 8)[1:] {
		long := strings.Repeat(s, api.MaxLen)
		compareWithDefinition(t, long[:api.MaxLen])
		compareWithDefinition(t, long[:api.MaxLen-1]+"c")
		compareWithDefinition(t, "c"+long[:api.MaxLen-1])
		compareWithDefinition(t, long[:api.MaxLen/2]+"c"+long[:api.MaxLen/2-1])
	}
}

// A palindrome at every position of a longer string, with nothing else around it.
func TestPalindromesInside(t *testing.T) {
	around := "0123456789ABCDEFGHIJKLMNOPQRSTUVWXYZ"
	for _, half := range sample.Strings("ab", 4)[1:] {
		for _, inside := range []string{half + sample.Reversed(half), half + "m" + sample.Reversed(half)} {
			for before := range api.MaxLen - len(inside) + 1 {
				after := api.MaxLen - len(inside) - before
				s := around[:before] + inside + around[before:before+after]
				compareWithDefinition(t, s)
				compareLongest(t, s, before, len(inside))
			}
		}
	}
}

func TestTooLong(t *testing.T) {
	for _, s := range []string{
		strings.Repeat("a", api.MaxLen+1),
		strings.Repeat("ab", api.MaxLen),
		strings.Repeat("é", api.MaxLen/2+1), // fewer runes than MaxLen, but more bytes
		strings.Repeat("\x00", 100_000),
	} {
		for name, f := range map[string]func(string) ([]int, error){"Odd": Odd, "Even": Even} {
			got, err := f(s)
			if !errors.Is(err, api.ErrFull) || len(got) != 0 {
				t.Errorf("%s of %d bytes = %v, %v, want no counts, ErrFull", name, len(s), got, err)
			}
		}
		at, long, err := Longest(s)
		if !errors.Is(err, api.ErrFull) || at != 0 || long != 0 {
			t.Errorf("Longest of %d bytes = %d, %d, %v, want 0, 0, ErrFull", len(s), at, long, err)
		}
	}
}

func TestResultsAreNewMemory(t *testing.T) {
	for name, f := range map[string]func(string) ([]int, error){"Odd": Odd, "Even": Even} {
		first, _ := f("abbabbaa")
		want := slices.Clone(first)
		second, _ := f("abbabbaa")
		for i := range first {
			first[i] = -1
		}
		third, _ := f("abbabbaa")
		if !slices.Equal(second, want) || !slices.Equal(third, want) {
			t.Errorf("%s: %v and %v after a change of another result, want %v", name, second, third, want)
		}
	}
}
