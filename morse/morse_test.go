package morse

import (
	"errors"
	"slices"
	"strconv"
	"strings"
	"testing"

	"letterbeck/api"
	"letterbeck/internal/sample"
)

// repetition is what Twice and Over find.
type repetition struct{ at, long int }

var none = repetition{-1, 0}

// wordByDefinition returns any number of bytes, also more than MaxMorse.
func wordByDefinition(n int) string {
	var word strings.Builder
	for i := range n {
		ones := strings.Count(strconv.FormatInt(int64(i), 2), "1")
		word.WriteString(strconv.Itoa(ones % 2))
	}
	return word.String()
}

// squareFree returns n bytes of a string over a, b and c without a square: the numbers of
// ones between neighbouring zeros of the Thue-Morse word.
func squareFree(n int) string {
	var s []byte
	for _, ones := range strings.Split(wordByDefinition(3*n+3), "0")[1 : n+1] {
		s = append(s, 'a'+byte(len(ones)))
	}
	return string(s)
}

// hasPeriod tells whether n bytes from position at on exist, each of which is equal to the
// one long positions earlier if that one is not before at.
func hasPeriod(s string, at, long, n int) bool {
	if at+n > len(s) {
		return false
	}
	for i := at + long; i < at+n; i++ {
		if s[i] != s[i-long] {
			return false
		}
	}
	return true
}

func isSquare(s string, at, long int) bool  { return hasPeriod(s, at, long, 2*long) }
func isOverlap(s string, at, long int) bool { return hasPeriod(s, at, long, 2*long+1) }

// firstByDefinition tries the lengths in decreasing order, so that of those at one position
// the shortest one remains.
func firstByDefinition(s string, is func(s string, at, long int) bool) repetition {
	first := none
	for long := len(s); long > 0; long-- {
		for at := range len(s) {
			if is(s, at, long) && (first == none || at <= first.at) {
				first = repetition{at, long}
			}
		}
	}
	return first
}

func wordWithoutError(t *testing.T, n int) string {
	t.Helper()
	word, err := Word(n)
	if err != nil {
		t.Fatalf("Word(%d): error %v, want none", n, err)
	}
	return word
}

// compare checks both functions on a valid string.
func compare(t *testing.T, s string, twice, over repetition) {
	t.Helper()
	if at, long, err := Twice(s); err != nil || (repetition{at, long}) != twice {
		t.Fatalf("Twice(%q) = %d, %d, %v, want %v", s, at, long, err, twice)
	}
	if at, long, err := Over(s); err != nil || (repetition{at, long}) != over {
		t.Fatalf("Over(%q) = %d, %d, %v, want %v", s, at, long, err, over)
	}
}

func compareWithDefinition(t *testing.T, s string) {
	t.Helper()
	compare(t, s, firstByDefinition(s, isSquare), firstByDefinition(s, isOverlap))
}

func TestWordWrittenOut(t *testing.T) {
	for _, want := range []string{
		"", "0", "01", "011", "0110", "01101", "011010", "0110100", "01101001",
		"0110100110010110",
		"01101001100101101",
		"0110100110010110100101100110100110010110011010010110100110010110",
	} {
		if got := wordWithoutError(t, len(want)); got != want {
			t.Errorf("Word(%d) = %q, want %q", len(want), got, want)
		}
	}
	// In binary, 192 to 199 are 11000 followed by the three digits of 0 to 7.
	const end = "01101001"
	if word := wordWithoutError(t, api.MaxMorse); len(word) != 200 || !strings.HasSuffix(word, end) {
		t.Errorf("Word(%d) = %q, want 200 bytes, at last %q", api.MaxMorse, word, end)
	}
}

func TestWordOfEachLength(t *testing.T) {
	for n := range api.MaxMorse + 1 {
		if got, want := wordWithoutError(t, n), wordByDefinition(n); got != want {
			t.Errorf("Word(%d) = %q, want %q", n, got, want)
		}
	}
}

// The word remains the same if 01 and 10 replace 0 and 1.
func TestWordSubstituted(t *testing.T) {
	double := strings.NewReplacer("0", "01", "1", "10")
	for n := range api.MaxMorse/2 + 1 {
		if got, want := wordWithoutError(t, 2*n), double.Replace(wordWithoutError(t, n)); got != want {
			t.Errorf("Word(%d) = %q, want %q", 2*n, got, want)
		}
	}
}

// The first bytes, as many as a power of two, come again, but with 0 and 1 exchanged.
func TestWordComplemented(t *testing.T) {
	exchange := strings.NewReplacer("0", "1", "1", "0")
	for n := 1; 2*n <= api.MaxMorse; n *= 2 {
		half := wordWithoutError(t, n)
		if got, want := wordWithoutError(t, 2*n), half+exchange.Replace(half); got != want {
			t.Errorf("Word(%d) = %q, want %q", 2*n, got, want)
		}
	}
}

func TestWordOutOfRange(t *testing.T) {
	for _, n := range sample.Outside(0, api.MaxMorse) {
		if word, err := Word(n); word != "" || !errors.Is(err, api.ErrRange) {
			t.Errorf("Word(%d) = %q, %v, want nothing, %v", n, word, err, api.ErrRange)
		}
	}
}

func TestWordHasNoOverlap(t *testing.T) {
	for n := range api.MaxMorse + 1 {
		twice := repetition{1, 1}
		if n < 3 {
			twice = none
		}
		compare(t, wordWithoutError(t, n), twice, none)
	}
	for at := range api.MaxMorse {
		rest := wordWithoutError(t, api.MaxMorse)[at:]
		compare(t, rest, firstByDefinition(rest, isSquare), none)
		compare(t, sample.Reversed(rest), firstByDefinition(sample.Reversed(rest), isSquare), none)
	}
}

// One more byte of any value at the end of the word may be its first repetition that is an
// overlap.
func TestWordContinued(t *testing.T) {
	for n := range api.MaxMorse {
		for _, b := range []byte("012\x00\xff") {
			compareWithDefinition(t, wordWithoutError(t, n)+string([]byte{b}))
		}
	}
}

func TestWrittenOut(t *testing.T) {
	for _, c := range []struct {
		s           string
		twice, over repetition
	}{
		{"0110", repetition{1, 1}, none},
		{"01", none, none},
		{"000", repetition{0, 1}, repetition{0, 1}},

		{"", none, none}, // too short
		{"a", none, none},
		{"\x00", none, none},
		{"\xff", none, none},

		{"ba", none, none}, // no square
		{"aba", none, none},
		{"aA", none, none},
		{"abca", none, none},
		{"abcab", none, none},
		{"abcacb", none, none},
		{"abcbabc", none, none},
		{"\x00\xff\x00", none, none},

		{"aa", repetition{0, 1}, none}, // one byte repeated
		{"aaa", repetition{0, 1}, repetition{0, 1}},
		{"aaaa", repetition{0, 1}, repetition{0, 1}},
		{"aaaaaaa", repetition{0, 1}, repetition{0, 1}},
		{"\x00\x00", repetition{0, 1}, none},
		{"\xff\xff\xff", repetition{0, 1}, repetition{0, 1}},

		{"aab", repetition{0, 1}, none}, // at the beginning
		{"ababc", repetition{0, 2}, none},
		{"abcabcb", repetition{0, 3}, none},
		{"\x00\xff\x00\xff\xff", repetition{0, 2}, none},
		{"aaab", repetition{0, 1}, repetition{0, 1}},
		{"ababac", repetition{0, 2}, repetition{0, 2}},

		{"baa", repetition{1, 1}, none}, // at the end
		{"cabab", repetition{1, 2}, none},
		{"acabcabc", repetition{1, 3}, repetition{1, 3}},
		{"adabcabc", repetition{2, 3}, none},
		{"\xff\x00\x00", repetition{1, 1}, none},
		{"caaa", repetition{1, 1}, repetition{1, 1}},
		{"aabcbcb", repetition{0, 1}, repetition{2, 2}},
		{"bbabcdabcda", repetition{0, 1}, repetition{2, 4}},
		{"\x01\xff\x00\xff\x00\xff", repetition{1, 2}, repetition{1, 2}},

		{"bbb", repetition{0, 1}, repetition{0, 1}}, // the whole string
		{"abab", repetition{0, 2}, none},
		{"ababa", repetition{0, 2}, repetition{0, 2}},
		{"abcdabcd", repetition{0, 4}, none},
		{"abcdabcda", repetition{0, 4}, repetition{0, 4}},
		{"abcdabcdb", repetition{0, 4}, none},

		{"aabaab", repetition{0, 1}, none}, // several lengths at the same position
		{"abaababaab", repetition{0, 3}, repetition{3, 2}},
		{"abababab", repetition{0, 2}, repetition{0, 2}},
		{"ababaababa", repetition{0, 2}, repetition{0, 2}},
		{"aaabaaaba", repetition{0, 1}, repetition{0, 1}},
		{"aabaaba", repetition{0, 1}, repetition{0, 3}},
		{"ababcababca", repetition{0, 2}, repetition{0, 5}},

		{"ababb", repetition{0, 2}, none}, // a longer one before a shorter one
		{"abcabcdd", repetition{0, 3}, none},
		{"ababccc", repetition{0, 2}, repetition{4, 1}},
		{"ababaccc", repetition{0, 2}, repetition{0, 2}},
		{"abcabcaeee", repetition{0, 3}, repetition{0, 3}},
		{"cabcdabcdaa", repetition{1, 4}, repetition{1, 4}},

		{"aabbb", repetition{0, 1}, repetition{2, 1}}, // a square before an overlap
		{"aabcbcbc", repetition{0, 1}, repetition{2, 2}},
		{"ccabcabca", repetition{0, 1}, repetition{1, 3}},

		{"éé", repetition{0, 2}, none}, // bytes, not runes
		{"ééé", repetition{0, 2}, repetition{0, 2}},
		{"aéé", repetition{1, 2}, none},
		{"àé", none, none},
	} {
		compare(t, c.s, c.twice, c.over)
	}
}

func TestAllShortStrings(t *testing.T) {
	for _, s := range slices.Concat(
		sample.Strings("ab", 13),
		sample.Strings("abc", 8),
		sample.Strings("\x00\n 0\xff", 5),
	) {
		compareWithDefinition(t, s)
	}
}

// checkOccurrence checks that what is found occurs, that nothing shorter occurs there, and
// nothing at an earlier position.
func checkOccurrence(t *testing.T, s string, at, long int, end func(s string) string) {
	t.Helper()
	for i := range len(s) {
		for n := 1; i+2*n <= len(s); n++ {
			part := s[i : i+n]
			occurs := strings.HasPrefix(s[i:], part+part+end(part))
			if i == at && n == long {
				if !occurs {
					t.Fatalf("%d, %d is no repetition of %q", at, long, s)
				}
				return
			}
			if occurs {
				t.Fatalf("%d, %d is not the first repetition of %q, but %d, %d", at, long, s, i, n)
			}
		}
	}
	if at != -1 || long != 0 {
		t.Fatalf("%d, %d is not in %q", at, long, s)
	}
}

func TestOccurrences(t *testing.T) {
	nothing := func(s string) string { return "" }
	firstByte := func(s string) string { return s[:1] }
	for _, s := range slices.Concat(sample.Strings("xyz", 8), sample.Strings("\xfe\xff", 11)) {
		at, long, err := Twice(s)
		if err != nil {
			t.Fatalf("Twice(%q): error %v, want none", s, err)
		}
		checkOccurrence(t, s, at, long, nothing)
		at, long, err = Over(s)
		if err != nil {
			t.Fatalf("Over(%q): error %v, want none", s, err)
		}
		checkOccurrence(t, s, at, long, firstByte)
	}
}

func TestEachByte(t *testing.T) {
	for b := range 256 {
		for other := range 256 {
			if b == other {
				continue
			}
			one, two := string([]byte{byte(b)}), string([]byte{byte(other)})
			compare(t, one+two, none, none)
			compare(t, two+one+one, repetition{1, 1}, none)
			compare(t, two+one+one+one, repetition{1, 1}, repetition{1, 1})
			compare(t, one+two+one+two+two, repetition{0, 2}, none)
			compare(t, one+two+one+two+one, repetition{0, 2}, repetition{0, 2})
		}
	}
}

func TestOneByteRepeated(t *testing.T) {
	for _, b := range []byte("a0\x00\xff") {
		compare(t, "", none, none)
		compare(t, sample.Repeated(b, 1), none, none)
		compare(t, sample.Repeated(b, 2), repetition{0, 1}, none)
		for n := 3; n <= api.MaxMorse; n++ {
			compare(t, sample.Repeated(b, n), repetition{0, 1}, repetition{0, 1})
		}
	}
}

func TestPeriodicStrings(t *testing.T) {
	for period := 1; period <= api.MaxMorse; period++ {
		s := strings.Repeat(sample.Bytes()[:period], api.MaxMorse)
		for _, n := range []int{period, 2*period - 1, 2 * period, 2*period + 1, 3 * period, api.MaxMorse - 1, api.MaxMorse} {
			if n > api.MaxMorse {
				continue
			}
			twice, over := none, none
			if n >= 2*period {
				twice = repetition{0, period}
			}
			if n > 2*period {
				over = repetition{0, period}
			}
			compare(t, s[:n], twice, over)
		}
	}
}

// with returns base with the first n bytes from position at on, again and again, long
// positions later.
func with(base string, at, long, n int) string {
	s := []byte(base)
	for i := at + long; i < at+long+n; i++ {
		s[i] = s[i-long]
	}
	return string(s)
}

// TestOnlyRepetition puts one repetition into strings of different bytes.
func TestOnlyRepetition(t *testing.T) {
	for _, base := range []string{sample.Bytes()[:api.MaxMorse], sample.Reversed(sample.Bytes())[:41]} {
		for at := range len(base) {
			for long := 1; at+2*long <= len(base); long++ {
				compareOnly(t, base, at, long)
			}
		}
	}
}

// compareOnly puts a square, one with its first byte, and one without its last byte at a
// position of a string of different bytes.
func compareOnly(t *testing.T, base string, at, long int) {
	t.Helper()
	only := repetition{at, long}
	compare(t, with(base, at, long, long-1), none, none)
	compare(t, with(base, at, long, long), only, none)
	if at+2*long < len(base) {
		compare(t, with(base, at, long, long+1), only, only)
	}
}

func TestWithoutSquares(t *testing.T) {
	s := squareFree(api.MaxMorse)
	for i := range len(s) {
		compare(t, s[i:], none, none)
		compare(t, s[:i], none, none)
	}
	compare(t, sample.Reversed(s), none, none)
}

// Each byte of a string without squares that another one replaces may make a square.
func TestOneByteReplaced(t *testing.T) {
	s := squareFree(api.MaxMorse)
	for i := range len(s) {
		for _, b := range []byte("abc\x00") {
			compareWithDefinition(t, s[:i]+string([]byte{b})+s[i+1:])
		}
	}
}

func TestLongStrings(t *testing.T) {
	for signs := 2; signs <= 256; signs++ {
		s := sample.Irregular(signs, api.MaxMorse)
		compareWithDefinition(t, s)
		compareWithDefinition(t, sample.Reversed(s[1:]))
	}
}

func TestTooLong(t *testing.T) {
	for _, s := range append(sample.TooLong(api.MaxMorse), squareFree(api.MaxMorse+1), wordByDefinition(api.MaxMorse+1)) {
		if at, long, err := Twice(s); at != 0 || long != 0 || !errors.Is(err, api.ErrFull) {
			t.Errorf("Twice of %d bytes: %d, %d, %v, want 0, 0, %v", len(s), at, long, err, api.ErrFull)
		}
		if at, long, err := Over(s); at != 0 || long != 0 || !errors.Is(err, api.ErrFull) {
			t.Errorf("Over of %d bytes: %d, %d, %v, want 0, 0, %v", len(s), at, long, err, api.ErrFull)
		}
	}
}
