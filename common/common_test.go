package common

import (
	"errors"
	"slices"
	"strings"
	"testing"

	"letterbeck/api"
	"letterbeck/internal/sample"
)

// better tells whether the common subsequence s is to be taken rather than t.
func better(s, t string) bool {
	if len(s) != len(t) {
		return len(s) > len(t)
	}
	return s < t
}

// subsequences returns what results from removing bytes from s, or none.
func subsequences(s string) map[string]bool {
	if s == "" {
		return map[string]bool{"": true}
	}
	all := map[string]bool{}
	for rest := range subsequences(s[1:]) {
		all[rest] = true
		all[s[:1]+rest] = true
	}
	return all
}

// bestOfAll returns the best of the strings that are in both sets.
func bestOfAll(first, second map[string]bool) string {
	best := ""
	for s := range first {
		if second[s] && better(s, best) {
			best = s
		}
	}
	return best
}

// bestByPrefixes goes through a and b from the left, and compares whole subsequences: of
// those of a[:i] and b[:j] that have one length, only the smallest one can be the
// beginning of the best one of longer prefixes.
func bestByPrefixes(a, b string) string {
	best := make([][]string, len(a)+1)
	for i := range best {
		best[i] = make([]string, len(b)+1)
		for j := range best[i] {
			if i == 0 || j == 0 {
				continue
			}
			all := []string{best[i-1][j], best[i][j-1]}
			if a[i-1] == b[j-1] {
				all = append(all, best[i-1][j-1]+a[i-1:i])
			}
			for _, s := range all {
				if better(s, best[i][j]) {
					best[i][j] = s
				}
			}
		}
	}
	return best[len(a)][len(b)]
}

// withinFromEnd tells whether a is a subsequence of b, beginning with their last bytes.
func withinFromEnd(a, b string) bool {
	for ; b != ""; b = b[:len(b)-1] {
		if a != "" && a[len(a)-1] == b[len(b)-1] {
			a = a[:len(a)-1]
		}
	}
	return a == ""
}

func longWithoutError(t *testing.T, a, b string) int {
	t.Helper()
	long, err := Long(a, b)
	if err != nil {
		t.Fatalf("Long(%q, %q): error %v, want none", a, b, err)
	}
	return long
}

func ofWithoutError(t *testing.T, a, b string) string {
	t.Helper()
	common, err := Of(a, b)
	if err != nil {
		t.Fatalf("Of(%q, %q): error %v, want none", a, b, err)
	}
	return common
}

func compareWithin(t *testing.T, a, b string, want bool) {
	t.Helper()
	got, err := Within(a, b)
	if err != nil {
		t.Fatalf("Within(%q, %q): error %v, want none", a, b, err)
	}
	if got != want {
		t.Fatalf("Within(%q, %q) = %t, want %t", a, b, got, want)
	}
}

// compare checks the smallest longest common subsequence of a and b in both orders, that
// it is within both, that its length is that of Long, and that a string is within another
// one exactly if it is that subsequence of both.
func compare(t *testing.T, a, b, want string) {
	t.Helper()
	for _, pair := range [][2]string{{a, b}, {b, a}} {
		first, second := pair[0], pair[1]
		if got := longWithoutError(t, first, second); got != len(want) {
			t.Fatalf("Long(%q, %q) = %d, want %d", first, second, got, len(want))
		}
		if got := ofWithoutError(t, first, second); got != want {
			t.Fatalf("Of(%q, %q) = %q, want %q", first, second, got, want)
		}
		compareWithin(t, want, first, true)
		compareWithin(t, first, second, first == want)
	}
}

func TestLongWrittenOut(t *testing.T) {
	for _, c := range []struct {
		a, b string
		want int
	}{
		{"", "", 0},
		{"a", "", 0},
		{"", "a", 0},
		{"a", "a", 1},
		{"a", "b", 0},
		{"ab", "ba", 1},
		{"abc", "abc", 3},
		{"abc", "xyz", 0},
		{"abcbdab", "bdcaba", 4},
		{"human", "chimpanzee", 4},
		{"nematode", "empty", 3},
		{"xmjyauz", "mzjawxu", 4},
		{"\x00\xff", "\xff\x00", 1},
		{strings.Repeat("ab", api.MaxLen/2), strings.Repeat("ba", api.MaxLen/2), api.MaxLen - 1},
		{sample.Repeated('a', api.MaxLen), "", 0},
		{"", sample.Repeated('a', api.MaxLen), 0},
		{sample.Repeated('a', api.MaxLen), sample.Repeated('a', api.MaxLen), api.MaxLen},
		{sample.Repeated('a', api.MaxLen), sample.Repeated('b', api.MaxLen), 0},
	} {
		if got := longWithoutError(t, c.a, c.b); got != c.want {
			t.Errorf("Long(%q, %q) = %d, want %d", c.a, c.b, got, c.want)
		}
	}
}

// Only one common subsequence is the longest.
func TestWrittenOut(t *testing.T) {
	for _, c := range []struct{ a, b, want string }{
		{"", "", ""},
		{"a", "", ""}, // one string is empty
		{"abc", "", ""},
		{"\x00", "", ""},
		{"\xff", "", ""},
		{"a", "a", "a"}, // equal strings
		{"abc", "abc", "abc"},
		{"cba", "cba", "cba"},
		{"aaa", "aaa", "aaa"},
		{"\x00\xff\x00", "\x00\xff\x00", "\x00\xff\x00"},
		{"a", "b", ""}, // single bytes
		{"a", "A", ""},
		{"\x00", "\xff", ""},
		{"\xfe", "\xff", ""}, // two invalid bytes are not equal
		{"a", "bab", "a"},
		{"abc", "xyz", ""}, // nothing in common
		{"aa", "bbb", ""},
		{"abc", "ABC", ""},
		{"abc", "b", "b"}, // a string and a part of it
		{"abc", "ac", "ac"},
		{"abcde", "bcd", "bcd"},
		{"abcde", "ace", "ace"},
		{"a", "aaaa", "a"}, // one byte repeated
		{"aa", "aaaa", "aa"},
		{"\x00\x00\x00", "\x00\x00", "\x00\x00"},
		{"\xff", "\xff\xff", "\xff"},
		{"aab", "baa", "aa"},      // a string and its reversal
		{"bbbaa", "aabbb", "bbb"}, // a longer one rather than a smaller one
		{"cab", "abc", "ab"},      // the same bytes in another order
		{"abc", "bca", "bc"},      // which leaves out the smallest byte
		{"aabc", "abcc", "abc"},   // the same bytes in another number
		{"abbb", "aaab", "ab"},
		{"abcb", "bcab", "bcb"},
		{"xaxb", "axbx", "axb"},
		{"human", "chimpanzee", "hman"},
		{"nematode", "empty", "emt"},
		{"xmjyauz", "mzjawxu", "mjau"},
		{"kitten", "sitting", "ittn"},
		{"banana", "ananas", "anana"},
		{"sunday", "saturday", "suday"},
		{"intention", "execution", "etion"},
		{"thisisatest", "testing123testing", "tsitest"},
		{"accggtc", "gatcgca", "acgc"},
		{"é", "è", "\xc3"}, // of bytes, not of runes
		{"aéb", "bé", "é"},
		{"a\x00b", "ab", "ab"}, // a zero byte does not end a string
		{"\x00\x01\x02", "\x00\x02", "\x00\x02"},
	} {
		compare(t, c.a, c.b, c.want)
	}
}

// Several common subsequences are the longest.
func TestSmallestWrittenOut(t *testing.T) {
	for _, c := range []struct {
		a, b, want string
		others     []string
	}{
		{"ab", "ba", "a", []string{"b"}},
		{"\x00\xff", "\xff\x00", "\x00", []string{"\xff"}},
		{"\x7f\x80", "\x80\x7f", "\x7f", []string{"\x80"}}, // bytes have no signs
		{"aB", "Ba", "B", []string{"a"}},
		{"abc", "cba", "a", []string{"b", "c"}}, // reversals
		{"bca", "acb", "a", []string{"b", "c"}},
		{"cab", "bac", "a", []string{"b", "c"}},
		{"abcde", "edcba", "a", []string{"b", "c", "d", "e"}},
		{"xyza", "azyx", "a", []string{"x", "y", "z"}},
		{"aabb", "bbaa", "aa", []string{"bb"}}, // the same bytes in another order
		{"aabb", "abab", "aab", []string{"abb"}},
		{"abab", "baba", "aba", []string{"bab"}},
		{"abba", "baab", "aa", []string{"ab", "ba", "bb"}},
		{"bab", "bba", "ba", []string{"bb"}}, // the second byte decides
		{"acb", "abc", "ab", []string{"ac"}},
		{"bdca", "abcd", "bc", []string{"bd"}},
		{"bac", "abc", "ac", []string{"bc"}}, // the first byte decides
		{"cbab", "bcab", "bab", []string{"cab"}},
		{"abcd", "cdab", "ab", []string{"cd"}},
		{"cdab", "abcd", "ab", []string{"cd"}},
		{"zxaby", "abzxc", "ab", []string{"zx"}},
		{"bxa", "xba", "ba", []string{"xa"}},
		{"abcd", "badc", "ac", []string{"ad", "bc", "bd"}},
		{"baxab", "abxba", "axa", []string{"axb", "bxa", "bxb"}},
		{"bacb", "cabc", "ab", []string{"ac", "bc", "cb"}},
		{"abcabc", "cbacba", "aba", []string{"aca", "acb", "bab", "bca", "cab", "cbc"}},
		{"abcbdab", "bdcaba", "bcab", []string{"bcba", "bdab"}},
		{"listen", "silent", "ien", []string{"len", "sen"}},
	} {
		compare(t, c.a, c.b, c.want)
		for _, other := range c.others {
			compareWithin(t, other, c.a, true)
			compareWithin(t, other, c.b, true)
			if len(other) != len(c.want) || other <= c.want {
				t.Errorf("%q is no other longest common subsequence of %q and %q", other, c.a, c.b)
			}
		}
	}
}

func TestWithinWrittenOut(t *testing.T) {
	for _, c := range []struct {
		a, b string
		want bool
	}{
		{"", "", true}, // nothing needs to be removed
		{"a", "a", true},
		{"abc", "abc", true},
		{"\x00\xff", "\x00\xff", true},
		{"", "a", true}, // the empty string is within any one
		{"", "abc", true},
		{"", "\x00", true},
		{"", sample.Repeated('a', api.MaxLen), true},
		{"a", "", false}, // a longer string is within no shorter one
		{"\x00", "", false},
		{"aa", "a", false},
		{"abc", "ab", false},
		{"abc", "ac", false},
		{"abc", "bc", false},
		{sample.Repeated('a', api.MaxLen), sample.Repeated('a', api.MaxLen-1), false},
		{sample.Repeated('a', api.MaxLen), "", false},
		{"a", "abc", true}, // at any place
		{"b", "abc", true},
		{"c", "abc", true},
		{"ab", "abc", true},
		{"bc", "abc", true},
		{"ac", "abc", true}, // with a gap
		{"ace", "abcde", true},
		{"ae", "abcde", true},
		{"bd", "abcde", true},
		{"aaa", "bababa", true},
		{"ca", "abc", false}, // not in this order
		{"ba", "ab", false},
		{"cba", "abc", false},
		{"acb", "abc", false},
		{"aab", "aba", false},
		{"aa", "ab", false}, // a byte is used up
		{"aba", "ab", false},
		{"aaaa", "aaba", false},
		{"x", "abc", false}, // another byte
		{"axc", "abc", false},
		{"A", "a", false},
		{"xabc", "abcabc", false},
		{"abcx", "abcabc", false},
		{"aab", "abaab", true}, // not at the first places of a part
		{"abb", "abab", true},
		{"\x00\x00", "\x00a\x00", true},
		{"\x00\x00", "\x00a", false},
		{"\xfe", "\xff", false}, // bytes 0 and 255, and other invalid ones
		{"\xff", "\xfe\xff\xfe", true},
		{"\xff\x00", "\x00\xff", false},
		{"\xff\x00", "\x00\xff\x00", true},
		{"b", "a\x00b", true},
		{"\xc3", "é", true}, // of bytes, not of runes
		{"\xa9", "é", true},
		{"\xa9\xc3", "é", false},
		{"è", "é", false},
		{"é", "\xc3a\xa9", true},
	} {
		compareWithin(t, c.a, c.b, c.want)
	}
}

// All pairs of strings, with all that they have in common.
func TestAllShortStrings(t *testing.T) {
	for _, all := range [][]string{
		sample.Strings("ab", 7), sample.Strings("bca", 4), sample.Strings("\x00z\xff", 4),
		sample.Strings("\x80\xc3\xa9a", 3), sample.Strings("dbeca", 3),
	} {
		parts := map[string]map[string]bool{}
		for _, s := range all {
			parts[s] = subsequences(s)
		}
		for a, b := range sample.Pairs(all, all) {
			compare(t, a, b, bestOfAll(parts[a], parts[b]))
			compareWithin(t, a, b, parts[b][a])
		}
	}
}

func TestAllOrdersOfBytes(t *testing.T) {
	var all []string
	for _, order := range sample.Orders([]byte("abcde")) {
		all = append(all, string(order))
	}
	for a, b := range sample.Pairs(all, all) {
		compare(t, a, b, bestOfAll(subsequences(a), subsequences(b)))
	}
}

func TestEachByte(t *testing.T) {
	for a := range 256 {
		for b := range 256 {
			first, second := sample.Repeated(byte(a), 1), sample.Repeated(byte(b), 1)
			if a == b {
				compare(t, first, second, first)
				continue
			}
			compare(t, first, second, "")
			compare(t, first+second, second+first, min(first, second))
		}
	}
}

// Strings of bytes that all differ, and what is left of them when some are removed,
// replaced or exchanged.
func TestOneDifferenceAtEachPlace(t *testing.T) {
	const all = "xwvutsrqponmlkjihgfedcba"
	for n := range api.MaxLen + 1 {
		s := all[:n]
		compare(t, s, s, s)
		for i := range n {
			for end := i + 1; end <= n; end++ {
				compare(t, s, s[i:end], s[i:end])
				compare(t, s, s[:i]+s[end:], s[:i]+s[end:])
			}
			for _, other := range []string{"\x00", "\xff", "A"} {
				compare(t, s, s[:i]+other+s[i+1:], s[:i]+s[i+1:])
			}
		}
		// Of two neighbours, the second one is smaller.
		for i := 1; i < n; i++ {
			exchanged := s[:i-1] + s[i:i+1] + s[i-1:i] + s[i+1:]
			compare(t, s, exchanged, s[:i-1]+s[i:])
		}
	}
}

func TestOneByteRepeated(t *testing.T) {
	for _, sign := range []byte{0, 'a', 0x80, 255} {
		for m := range api.MaxLen + 1 {
			for n := range api.MaxLen + 1 {
				a, b := sample.Repeated(sign, m), sample.Repeated(sign, n)
				compare(t, a, b, sample.Repeated(sign, min(m, n)))
				compareWithin(t, a, b, m <= n)
				compare(t, a, sample.Repeated(sign+1, n), "")
				if max(m, n) <= api.MaxLen-2 {
					compare(t, "x"+a+"y", "x"+b+"y", "x"+sample.Repeated(sign, min(m, n))+"y")
				}
			}
		}
	}
}

// compareWithPrefixes checks a and b where they are too long for all their subsequences.
func compareWithPrefixes(t *testing.T, a, b string) {
	t.Helper()
	compare(t, a, b, bestByPrefixes(a, b))
	compareWithin(t, a, b, withinFromEnd(a, b))
	compareWithin(t, b, a, withinFromEnd(b, a))
}

func TestLongStrings(t *testing.T) {
	for _, pair := range sample.LongPairs() {
		compareWithPrefixes(t, pair[0], pair[1])
	}
}

func TestReversals(t *testing.T) {
	for _, s := range slices.Concat(sample.Strings("ab", 11), sample.Strings("\x00z\xff", 7)) {
		compareWithPrefixes(t, s, sample.Reversed(s))
	}
}

func TestNothingInCommon(t *testing.T) {
	a, b := strings.Repeat("abcb", api.MaxLen/4), strings.Repeat("\xff\x00z", api.MaxLen/3)
	for m := range api.MaxLen + 1 {
		for n := range api.MaxLen + 1 {
			compare(t, a[:m], b[:n], "")
			compareWithin(t, a[:m], b[:n], m == 0)
		}
	}
}

// missing returns the first byte that s does not have.
func missing(s string) string {
	all := sample.Bytes()
	for strings.Contains(s, all[:1]) {
		all = all[1:]
	}
	return all[:1]
}

// Strings of MaxLen bytes, and what they become when some bytes are removed or replaced.
func TestWithinMaxLen(t *testing.T) {
	for _, signs := range []int{1, 2, 3, 256} {
		b := sample.Irregular(signs, api.MaxLen)
		other := missing(b)
		for i := range len(b) {
			for j := i + 1; j < len(b); j++ {
				compareWithin(t, b[:i]+b[i+1:j]+b[j+1:], b, true)
				compareWithin(t, b[:i]+b[j:], b, true)
				compareWithin(t, b[i:j], b, true)
				compareWithin(t, b[i:j]+other, b, false)
				compareWithin(t, other+b[i:j], b, false)
			}
			compareWithin(t, b[:i]+other+b[i+1:], b, false)
			compareWithin(t, b, b[:i]+other+b[i+1:], false)
		}
	}
}

func compareTooLong(t *testing.T, a, b string) {
	t.Helper()
	long, err := Long(a, b)
	if !errors.Is(err, api.ErrFull) || long != 0 {
		t.Errorf("Long of %d and %d bytes = %d, %v, want 0, ErrFull", len(a), len(b), long, err)
	}
	common, err := Of(a, b)
	if !errors.Is(err, api.ErrFull) || common != "" {
		t.Errorf("Of of %d and %d bytes = %q, %v, want nothing, ErrFull", len(a), len(b), common, err)
	}
	within, err := Within(a, b)
	if !errors.Is(err, api.ErrFull) || within {
		t.Errorf("Within of %d and %d bytes = %t, %v, want false, ErrFull", len(a), len(b), within, err)
	}
}

func TestTooLong(t *testing.T) {
	short := []string{"", "a", "ab", sample.Repeated('a', api.MaxLen)}
	for long, s := range sample.Pairs(sample.TooLong(api.MaxLen), short) {
		compareTooLong(t, long, s)
		compareTooLong(t, s, long)
	}
	for a, b := range sample.Pairs(sample.TooLong(api.MaxLen), sample.TooLong(api.MaxLen)) {
		compareTooLong(t, a, b)
	}
}

// result is what the three functions return.
type result struct {
	long   int
	common string
	within bool
	errors [3]error
}

func resultOf(a, b string) result {
	var r result
	r.long, r.errors[0] = Long(a, b)
	r.common, r.errors[1] = Of(a, b)
	r.within, r.errors[2] = Within(a, b)
	return r
}

// The arguments stay as they are, whether the calls succeed or not, and the same calls
// have the same results.
func TestArgumentsStay(t *testing.T) {
	all := append(sample.TooLong(api.MaxLen), "", "abab", "baba", "\x00\xff", sample.Repeated('a', api.MaxLen))
	before := make([]string, len(all))
	for i, s := range all {
		before[i] = strings.Clone(s)
	}
	for a, b := range sample.Pairs(all, all) {
		if first, again := resultOf(a, b), resultOf(a, b); first != again {
			t.Errorf("%d and %d bytes: %v, then %v", len(a), len(b), first, again)
		}
	}
	if !slices.Equal(all, before) {
		t.Errorf("the arguments have become %q, want %q", all, before)
	}
}
