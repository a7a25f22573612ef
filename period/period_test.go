package period

import (
	"errors"
	"math"
	"slices"
	"strings"
	"testing"

	"letterbeck/api"
	"letterbeck/internal/sample"
	"letterbeck/turn"
)

// hasByDefinition compares each byte from position k on with the one k positions before.
func hasByDefinition(s string, k int) bool {
	if k < 1 || k > len(s) {
		return false
	}
	for i := k; i < len(s); i++ {
		if s[i] != s[i-k] {
			return false
		}
	}
	return true
}

func allByDefinition(s string) []int {
	var periods []int
	for k := 1; k <= len(s); k++ {
		if hasByDefinition(s, k) {
			periods = append(periods, k)
		}
	}
	return periods
}

func compareAll(t *testing.T, s string, want []int) {
	t.Helper()
	got, err := All(s)
	if err != nil {
		t.Fatalf("All(%q): error %v, want none", s, err)
	}
	if !slices.Equal(got, want) {
		t.Fatalf("All(%q) = %v, want %v", s, got, want)
	}
}

func compareHas(t *testing.T, s string, k int, want bool) {
	t.Helper()
	got, err := Has(s, k)
	if err != nil {
		t.Fatalf("Has(%q, %d): error %v, want none", s, k, err)
	}
	if got != want {
		t.Fatalf("Has(%q, %d) = %t, want %t", s, k, got, want)
	}
}

func compareWithDefinition(t *testing.T, s string) {
	t.Helper()
	compareAll(t, s, allByDefinition(s))
	for k := -2; k <= len(s)+2; k++ {
		compareHas(t, s, k, hasByDefinition(s, k))
	}
}

func numbers(from, to int) []int {
	var l []int
	for i := from; i <= to; i++ {
		l = append(l, i)
	}
	return l
}

// Has agrees with the listed periods for each k from 1 to MaxLen.
func TestPeriodsWrittenOut(t *testing.T) {
	for _, c := range []struct {
		s    string
		want []int
	}{
		{"", nil},
		{"a", []int{1}}, // a single byte
		{"\x00", []int{1}},
		{"\xff", []int{1}},
		{"aa", []int{1, 2}}, // one byte repeated
		{"aaa", []int{1, 2, 3}},
		{"aaaaaaa", []int{1, 2, 3, 4, 5, 6, 7}},
		{"ab", []int{2}}, // the length only
		{"abc", []int{3}},
		{"aab", []int{3}},
		{"abcdefgh", []int{8}},
		{"aabab", []int{5}},
		{"abab", []int{2, 4}}, // a word two or more times
		{"ababab", []int{2, 4, 6}},
		{"aabaab", []int{3, 6}},
		{"abcabcabc", []int{3, 6, 9}},
		{"abaaba", []int{3, 5, 6}},
		{"aba", []int{2, 3}}, // a repetition that breaks off within the word
		{"ababa", []int{2, 4, 5}},
		{"abcabcab", []int{3, 6, 8}},
		{"abcabca", []int{3, 6, 7}},
		{"aabaabaa", []int{3, 6, 7, 8}},
		{"ababac", []int{6}}, // almost periodic
		{"abababb", []int{7}},
		{"cababab", []int{7}},
		{"abacab", []int{4, 6}},
		{"aaabaaa", []int{4, 5, 6, 7}},
		{"aaaaaab", []int{7}},
		{"baaaaaa", []int{7}},
		{"aabaa", []int{3, 4, 5}}, // none divides another
		{"aaabaa", []int{4, 5, 6}},
		{"abaababaabaab", []int{8, 11, 13}},
		{"abaababaaba", []int{5, 8, 10, 11}}, // and one that is no multiple between two that are
		{"abxab", []int{3, 5}},               // longer than half of the string
		{"abacaba", []int{4, 6, 7}},
		{"axya", []int{3, 4}},
		{"abcdefga", []int{7, 8}},
		{"Aa", []int{2}},
		{"\x7f\xff", []int{2}}, // bytes that are not ASCII
		{"\x00\xff\x00", []int{2, 3}},
		{"\xff\xfe\xff\xfe\xff", []int{2, 4, 5}},
		{"é", []int{2}}, // of bytes, not of runes
		{"éé", []int{2, 4}},
		{"éèé", []int{4, 6}},
		{"é\xc3", []int{2, 3}}, // breaks off within a rune
		{"\ufffd\ufffd", []int{3, 6}},
		{"\xff\xfe", []int{2}}, // two invalid bytes are not equal
		{"abcdefghijklmnopqrstuvwx", []int{api.MaxLen}},
		{strings.Repeat("a", api.MaxLen), numbers(1, api.MaxLen)},
		{strings.Repeat("ab", api.MaxLen/2), []int{2, 4, 6, 8, 10, 12, 14, 16, 18, 20, 22, 24}},
		{strings.Repeat("a", api.MaxLen-1) + "b", []int{api.MaxLen}},
		{strings.Repeat("abcde", 5)[:api.MaxLen], []int{5, 10, 15, 20, 24}},
	} {
		compareAll(t, c.s, c.want)
		for k := 1; k <= api.MaxLen; k++ {
			compareHas(t, c.s, k, slices.Contains(c.want, k))
		}
	}
}

func TestHasWrittenOut(t *testing.T) {
	for _, c := range []struct {
		s    string
		k    int
		want bool
	}{
		{"aba", 2, true},
		{"aba", 1, false},
		{"abab", 3, false},
		{"abcabcab", 3, true},
		{"abcabcab", 6, true}, // a multiple of a period
		{"abcabcab", 9, false},
		{"abab", 4, true}, // the length
		{"abc", 3, true},
		{"a", 1, true},
		{"abc", 4, false}, // above the length
		{"aaa", 4, false},
		{"abab", 6, false},
		{"a", 2, false},
		{"aaa", 0, false}, // below 1
		{"aaa", -1, false},
		{"aaa", -3, false},
		{"abab", -2, false},
		{"", 0, false}, // the length of the empty string is no period
		{"", 1, false},
		{"", -1, false},
		{"ababac", 2, false},
		{"ababac", 4, false},
		{"éé", 2, true},
		{"éé", 1, false},
	} {
		compareHas(t, c.s, c.k, c.want)
	}
}

func TestHasOfExtremeNumbers(t *testing.T) {
	for _, s := range []string{"", "a", "aaaa", "abab", strings.Repeat("a", api.MaxLen)} {
		for _, k := range []int{
			math.MinInt, math.MinInt + 1, math.MinInt32, -api.MaxLen,
			api.MaxLen + 1, 1<<32 + 1, 1<<32 + 2, math.MaxInt - 1, math.MaxInt,
		} {
			compareHas(t, s, k, false)
		}
	}
}

func TestAllShortStrings(t *testing.T) {
	for _, s := range slices.Concat(sample.Strings("ab", 13), sample.Strings("\x00z\xff", 8), sample.Strings("abcd", 6)) {
		compareWithDefinition(t, s)
	}
}

func TestStringsOfMaxLen(t *testing.T) {
	for _, s := range sample.Strings("ab", 10)[1:] {
		long := strings.Repeat(s, api.MaxLen)
		compareWithDefinition(t, long[:api.MaxLen])
		compareWithDefinition(t, long[:api.MaxLen-1])
		compareWithDefinition(t, long[:api.MaxLen-1]+"b")
		compareWithDefinition(t, "b"+long[:api.MaxLen-1])
		compareWithDefinition(t, long[:api.MaxLen/2]+"c"+long[:api.MaxLen/2-1])
	}
}

// The multiples of a period up to the length are periods, and the smallest period that
// divides the length is the length of the primitive root.
func TestMultiplesAndDivisors(t *testing.T) {
	for _, s := range sample.Strings("ab", 12)[1:] {
		periods, err := All(s)
		if err != nil {
			t.Fatalf("All(%q): error %v, want none", s, err)
		}
		for _, p := range periods {
			for k := p; k <= len(s); k += p {
				compareHas(t, s, k, true)
			}
		}
		root, err := turn.Root(s)
		if err != nil {
			t.Fatalf("turn.Root(%q): error %v", s, err)
		}
		i := slices.IndexFunc(periods, func(p int) bool { return len(s)%p == 0 })
		if i < 0 || periods[i] != root {
			t.Fatalf("All(%q) = %v, but the primitive root has length %d", s, periods, root)
		}
	}
}

func TestTooLong(t *testing.T) {
	for _, s := range []string{
		strings.Repeat("a", api.MaxLen+1),
		strings.Repeat("a", api.MaxLen) + "b",
		strings.Repeat("ab", api.MaxLen),
		strings.Repeat("é", api.MaxLen/2+1), // fewer runes than MaxLen, but more bytes
		strings.Repeat("\x00", 100_000),
	} {
		periods, err := All(s)
		if !errors.Is(err, api.ErrFull) || len(periods) != 0 {
			t.Errorf("All of %d bytes = %v, %v, want none, ErrFull", len(s), periods, err)
		}
		// A k that is no period of any string does not hide the error.
		for _, k := range []int{math.MinInt, -1, 0, 1, 2, api.MaxLen, len(s), len(s) + 1, math.MaxInt} {
			has, err := Has(s, k)
			if !errors.Is(err, api.ErrFull) || has {
				t.Errorf("Has of %d bytes and %d = %t, %v, want false, ErrFull", len(s), k, has, err)
			}
		}
	}
}

func TestResultsAreNewMemory(t *testing.T) {
	first, _ := All("aabaa")
	second, _ := All("aabaa")
	clear(first[:cap(first)])
	if !slices.Equal(second, []int{3, 4, 5}) {
		t.Errorf("%v after a change of another result, want [3 4 5]", second)
	}
	compareAll(t, "aabaa", []int{3, 4, 5})
	compareHas(t, "aabaa", 3, true)
}
