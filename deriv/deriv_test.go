package deriv

import (
	"errors"
	"maps"
	"slices"
	"strings"
	"testing"

	"letterbeck/api"
	"letterbeck/internal/sample"
	"letterbeck/regex"
)

// A language is a set of strings.
type language map[string]bool

// matching returns the strings of at most n bytes that match a part of a pattern, by the
// document's definition.
func matching(part regex.Part, n int) language {
	all := language{}
	switch part := part.(type) {
	case regex.Letter:
		all[part.String()] = true
	case regex.Starred:
		once := matching(part.Part, n)
		all[""] = true
		for size := 0; size < len(all); {
			size = len(all)
			maps.Copy(all, all.followedBy(once, n))
		}
	case regex.Sequence:
		all[""] = true
		for _, item := range part {
			all = all.followedBy(matching(item, n), n)
		}
	case regex.Choice:
		for _, alternative := range part {
			maps.Copy(all, matching(alternative, n))
		}
	}
	return all
}

// followedBy returns the strings of at most n bytes that are a string of first and one of
// second behind it.
func (first language) followedBy(second language, n int) language {
	all := language{}
	for a := range first {
		for b := range second {
			if len(a)+len(b) <= n {
				all[a+b] = true
			}
		}
	}
	return all
}

// prefixes returns the prefixes of the strings.
func (l language) prefixes() language {
	all := language{}
	for s := range l {
		for i := range len(s) + 1 {
			all[s[:i]] = true
		}
	}
	return all
}

// compareWithDefinition checks both functions on a pattern and texts, each of which has at
// most n bytes.
func compareWithDefinition(t *testing.T, p string, texts []string, n int) {
	t.Helper()
	whole, err := regex.Parse(p)
	if err != nil {
		t.Fatalf("%q is no pattern: %v", p, err)
	}
	_, letters, _ := regex.Signs(p)
	matches := matching(whole, n)
	begins := matches.prefixes()
	for _, s := range texts {
		compareMatch(t, p, s, matches[s])
		// The shortest string that begins with s and matches needs each occurrence of a
		// letter at most once behind s. It can be too long to be in begins.
		if begins[s] || len(s)+letters <= n {
			compareBegins(t, p, s, begins[s])
		}
	}
}

func compareMatch(t *testing.T, p, s string, want bool) {
	t.Helper()
	if is, err := Match(p, s); is != want || err != nil {
		t.Fatalf("Match(%q, %q) = %t, %v, want %t", p, s, is, err, want)
	}
}

func compareBegins(t *testing.T, p, s string, want bool) {
	t.Helper()
	if is, err := Begins(p, s); is != want || err != nil {
		t.Fatalf("Begins(%q, %q) = %t, %v, want %t", p, s, is, err, want)
	}
}

func compareError(t *testing.T, p, s string, want error) {
	t.Helper()
	if is, err := Match(p, s); is || !errors.Is(err, want) {
		t.Fatalf("Match(%q, %.30q) = %t, %v, want false, %v", p, s, is, err, want)
	}
	if is, err := Begins(p, s); is || !errors.Is(err, want) {
		t.Fatalf("Begins(%q, %.30q) = %t, %v, want false, %v", p, s, is, err, want)
	}
}

// patterns returns all patterns of at most n bytes over the bytes of the alphabet.
func patterns(alphabet string, n int) []string {
	return slices.DeleteFunc(sample.Strings(alphabet, n), func(s string) bool {
		return regex.Check(s) != nil
	})
}

type texts = []string

func TestWrittenOut(t *testing.T) {
	for _, c := range []struct {
		p               string
		matches, begins texts // begins: without matching
		neither         texts
	}{
		{"", texts{""}, nil, texts{"a", "aa", "ab", "|", "()", "*", "\x00", "aaaaaaaa"}},
		{"a", texts{"a"}, texts{""}, texts{"b", "A", "aa", "ab", "ba", "aaaaaaaa", "\xe1"}},
		{"ab", texts{"ab"}, texts{"", "a"}, texts{"b", "ba", "aa", "abb", "aab", "abab", "bab"}},
		{"ab*", texts{"a", "ab", "abb", "abbbbbbb"}, texts{""}, texts{"b", "ba", "aab", "abab", "abbbbbba"}},

		{"|", texts{""}, nil, texts{"a", "|", "||"}}, // empty alternatives
		{"||", texts{""}, nil, texts{"a", "|"}},
		{"|a", texts{"", "a"}, nil, texts{"b", "aa", "|a"}},
		{"a|", texts{"", "a"}, nil, texts{"b", "aa", "a|"}},
		{"a||b", texts{"", "a", "b"}, nil, texts{"ab", "ba", "c", "a||b"}},
		{"|ab", texts{"", "ab"}, texts{"a"}, texts{"b", "aab", "aba"}},
		{"ab|", texts{"", "ab"}, texts{"a"}, texts{"b", "aab", "aba"}},
		{"(|)", texts{""}, nil, texts{"a", "(|)"}},
		{"(|a)b", texts{"b", "ab"}, texts{"", "a"}, texts{"aa", "ba", "bb", "abb", "aab"}},
		{"b(a|)", texts{"b", "ba"}, texts{""}, texts{"a", "bb", "baa", "bab"}},
		{"a(b||c)d", texts{"ad", "abd", "acd"}, texts{"", "a", "ab", "ac"}, texts{"d", "abc", "abcd", "add", "acbd"}},
		{"a(|)b", texts{"ab"}, texts{"", "a"}, texts{"b", "aab", "a|b"}},

		{"()", texts{""}, nil, texts{"a", "()"}}, // an empty pattern in parentheses
		{"()*", texts{""}, nil, texts{"a", "*", "()*"}},
		{"()**()", texts{""}, nil, texts{"a", "()"}},
		{"()a", texts{"a"}, texts{""}, texts{"b", "aa"}},
		{"a()", texts{"a"}, texts{""}, texts{"b", "aa"}},
		{"a()*b", texts{"ab"}, texts{"", "a"}, texts{"b", "aab", "abb"}},
		{"(()a)*", texts{"", "a", "aa", "aaaaaaaa"}, nil, texts{"b", "ab", "aaaaaaab"}},
		{"()*a|()b", texts{"a", "b"}, texts{""}, texts{"ab", "ba", "aa"}},

		{"a*", texts{"", "a", "aa", "aaaaaaaa"}, nil, texts{"b", "ab", "ba", "aaaaaaab", "a*"}}, // several stars
		{"a**", texts{"", "a", "aa", "aaaaaaaa"}, nil, texts{"b", "ab", "ba", "aaaaaaab", "a*"}},
		{"a***b", texts{"b", "ab", "aaaaaaab"}, texts{"", "a", "aaaaaaaa"}, texts{"bb", "aba", "bab"}},
		{"(ab)**", texts{"", "ab", "abab", "abababab"}, texts{"a", "aba", "abababa"}, texts{"b", "aa", "ba", "abb"}},
		{"(a**|b)***", texts{"", "a", "b", "abba", "babababa"}, nil, texts{"c", "abc", "cab"}},

		{"(a*)*", texts{"", "a", "aa", "aaaaaaaa"}, nil, texts{"b", "ab", "aaaaaaab"}}, // a star over the empty string
		{"(a|)*", texts{"", "a", "aa", "aaaaaaaa"}, nil, texts{"b", "ab", "aaaaaaab"}},
		{"(|ab)*c", texts{"c", "abc", "ababc"}, texts{"", "a", "ab", "aba"}, texts{"ac", "b", "cc", "abac"}},
		{"(a*b*)*", texts{"", "a", "b", "ba", "abba", "bbaabbab"}, nil, texts{"c", "abac", "abbaabbc"}},
		{"(a*b*)*c", texts{"c", "bac", "abbac"}, texts{"", "a", "b", "ba", "abbaabba"}, texts{"cc", "cb", "bca"}},
		{"(()*|a)*", texts{"", "a", "aa"}, nil, texts{"b", "ab"}},
		{"((a*)*b*)*", texts{"", "a", "b", "baab"}, nil, texts{"c", "ac"}},

		{"a*b", texts{"b", "ab", "aab"}, texts{"", "a", "aa", "aaaaaaaa"}, texts{"ba", "bb", "aba"}}, // a first item that can be empty
		{"a*a", texts{"a", "aa", "aaaaaaaa"}, texts{""}, texts{"b", "ab", "ba"}},
		{"a*a*", texts{"", "a", "aa", "aaaaaaaa"}, nil, texts{"b", "ab"}},
		{"a*aa", texts{"aa", "aaa", "aaaaaaaa"}, texts{"", "a"}, texts{"b", "aab", "ba"}},
		{"a*b*c", texts{"c", "ac", "bc", "abc", "aabbc"}, texts{"", "a", "b", "aab"}, texts{"ba", "cc", "cb", "ca"}},
		{"(a|)(b|)c", texts{"c", "ac", "bc", "abc"}, texts{"", "a", "b", "ab"}, texts{"ba", "aa", "bb", "cc"}},
		{"(a|)a", texts{"a", "aa"}, texts{""}, texts{"b", "ab", "aaa"}},
		{"(ab|a)(c|bc)", texts{"abc", "abbc", "ac"}, texts{"", "a", "ab", "abb"}, texts{"b", "aa", "abbb", "acc", "abcc"}},

		{"ab|ac", texts{"ab", "ac"}, texts{"", "a"}, texts{"b", "c", "abc", "aa", "abac"}}, // alternatives
		{"a|ab|abc", texts{"a", "ab", "abc"}, texts{""}, texts{"b", "ac", "bc", "aab", "abcc"}},
		{"a|b|cd", texts{"a", "b", "cd"}, texts{"", "c"}, texts{"d", "ab", "acd", "bd", "ccd"}},
		{"ab|cd", texts{"ab", "cd"}, texts{"", "a", "c"}, texts{"ad", "cb", "b", "abd", "acd", "abcd"}},
		{"a(b|c)d", texts{"abd", "acd"}, texts{"", "a", "ab", "ac"}, texts{"ad", "abc", "abcd", "bd", "abdd"}},
		{"a*|b*", texts{"", "a", "b", "aaaaaaaa", "bbbbbbbb"}, nil, texts{"ab", "ba", "aaaaaaab", "bbbbbbba"}},
		{"ab*|a*b", texts{"a", "b", "ab", "abb", "aab"}, texts{"", "aa"}, texts{"ba", "bb", "aabb", "abba"}},

		{"(a|b)*", texts{"", "abba"}, nil, texts{"c", "abc", "cab", "A", "aB", "*", "(", "|", ")", "\x00", "ab\xff", "é", " "}},
		{"(aa|aaa)*", texts{"", "aa", "aaa", "aaaaaaaa"}, texts{"a"}, texts{"b", "aab"}},
		{"(aaaa)*", texts{"", "aaaa", "aaaaaaaa"}, texts{"a", "aa", "aaa", "aaaaa", "aaaaaaa"}, texts{"b", "aaaab"}},
		{"(a|ab)*b", texts{"b", "ab", "abb", "aab", "ababb"}, texts{"", "a", "aba"}, texts{"bb", "ba", "abbb"}},
		{"(ab*c)*d", texts{"d", "acd", "abbcd", "acabcd"}, texts{"", "a", "ac", "abcab"}, texts{"b", "ad", "cd", "abb*"}},

		// patterns of MaxPat bytes
		{"(a|b)*a(a|b)", texts{"aa", "ab", "bab", "abababab"}, texts{"", "a", "b", "ba", "abababba"}, texts{"c", "abababac"}},
		{"abcdefghijkl", nil, texts{"", "a", "abcdefg", "abcdefgh"}, texts{"b", "bcdefghi", "abcdefgi", "aabcdefg"}},
		{"aaaaaaaaaaaa", nil, texts{"", "a", "aaaaaaaa"}, texts{"b", "aaaaaaab"}},
		{"aaaaaaaa****", texts{"aaaaaaa", "aaaaaaaa"}, texts{"", "aaaaaa"}, texts{"b", "aaaaaaab"}},
		{"aaaaaaaa|bbb", texts{"aaaaaaaa", "bbb"}, texts{"", "a", "b", "aaaaaaa", "bb"}, texts{"aaab", "bbbb", "aaaaaaab"}},
		{"a***********", texts{"", "a", "aaaaaaaa"}, nil, texts{"b", "aaaaaaab"}},
		{"(((((a)))))*", texts{"", "a", "aaaaaaaa"}, nil, texts{"b", "aaaaaaab"}},
		{"a|b|c|d|e|f|", texts{"", "a", "f"}, nil, texts{"g", "aa", "af", "abcdef"}},
		{"a*b*c*d*e*f*", texts{"", "acf", "abcdef", "aabcdeff"}, nil, texts{"ba", "fe", "g", "abcdefga", "abcdeffe"}},
		{"((a*)*(a*)*)", texts{"", "a", "aaaaaaaa"}, nil, texts{"b", "aaaaaaab"}},
		{"(a*a*a*a*)*b", texts{"b", "ab", "aaaaaaab"}, texts{"", "a", "aaaaaaaa"}, texts{"ba", "bb", "aaaaaaac"}},
		{"(a|b|ab|)*ba", texts{"ba", "aba", "bbaababa"}, texts{"", "a", "b", "baabbabb"}, texts{"c", "bac", "aaaaaaac"}},
		{"((ab)*c)*d|e", texts{"d", "e", "cd", "abcd", "ccababcd"}, texts{"", "ab", "abab", "ccababca"}, texts{"abd", "ce", "de", "ac"}},
		{"(()|(()|()))", texts{""}, nil, texts{"a", "()"}},
	} {
		for _, s := range c.matches {
			compareMatch(t, c.p, s, true)
			compareBegins(t, c.p, s, true)
		}
		for _, s := range c.begins {
			compareMatch(t, c.p, s, false)
			compareBegins(t, c.p, s, true)
		}
		for _, s := range c.neither {
			compareMatch(t, c.p, s, false)
			compareBegins(t, c.p, s, false)
		}
	}
}

func TestAllShortPatterns(t *testing.T) {
	all := sample.Strings("abc", 4)
	for _, p := range patterns("ab|()*", 5) {
		compareWithDefinition(t, p, all, 6)
	}
	for _, p := range patterns("ab|()*", 6) {
		compareWithDefinition(t, p, sample.Strings("ab", 4), 5)
	}
}

// The strings that match a pattern with one letter are few enough for all that its texts
// can begin.
func TestOneLetter(t *testing.T) {
	all := sample.Strings("a", api.MaxStar)
	for _, p := range patterns("a|()*", 7) {
		compareWithDefinition(t, p, all, api.MaxStar+api.MaxPat)
	}
}

func TestTwoPatterns(t *testing.T) {
	all := sample.Strings("ab", 4)
	for p, q := range sample.Pairs(patterns("a|()*", 3), patterns("b|()*", 3)) {
		compareWithDefinition(t, "("+p+")("+q+")", all, 6)
		compareWithDefinition(t, "("+p+"|"+q+")*", all, 6)
		compareWithDefinition(t, "("+p+")*("+q+")", all, 6)
	}
	for p, q := range sample.Pairs(patterns("ab|()*", 2), patterns("ab|()*", 2)) {
		compareWithDefinition(t, "("+p+q+")*("+p+")*", all, 6)
	}
}

func TestMaxStar(t *testing.T) {
	all := slices.DeleteFunc(sample.Strings("ab", api.MaxStar), func(s string) bool { return len(s) < api.MaxStar })
	for _, p := range patterns("ab|()*", 4) {
		compareWithDefinition(t, p, all, api.MaxStar)
	}
	for _, p := range []string{
		"(a|b)*a(a|b)", "(a|b)*b*", "(ab|ba)*", "(aab|b)*a*", "(a*b)*(b*a)*", "a*b*a*b*a*b*", "aaaaaaaa|bbb",
		"(ab*a|b)*", "(aa|bb|ab)*a", "((ab)*(b*))*", "(a(bb)*|b)**", "(ab|b(a|b))*", "(a|bb*a)*b*",
	} {
		compareWithDefinition(t, p, all, api.MaxStar)
	}
}

// Each prefix of a text that matches begins one, and no text begins one unless it can be
// continued so that it matches.
func TestPrefixes(t *testing.T) {
	const most = 4
	for _, p := range patterns("ab|()*", most) {
		begins := language{}
		for _, s := range sample.Strings("ab", 2*most) {
			if is, err := Match(p, s); err != nil {
				t.Fatalf("Match(%q, %q): error %v, want none", p, s, err)
			} else if is {
				maps.Copy(begins, language{s: true}.prefixes())
			}
		}
		compareBegins(t, p, "", true)
		for _, s := range sample.Strings("ab", most) {
			compareBegins(t, p, s, begins[s])
		}
	}
}

func TestEachByte(t *testing.T) {
	for letter := byte('a'); letter <= 'z'; letter++ {
		x := string(letter)
		var all texts
		for b := range 256 {
			one := string([]byte{byte(b)})
			all = append(all, one, one+one, one+x, x+one)
		}
		compareWithDefinition(t, x, all, 3)
		compareWithDefinition(t, x+"*", all, 3)
	}
	for _, p := range []string{"", "ab*", "(a|b)*", "(az|za)*", "b(|c)(d*)", "(|a*)*"} {
		var all texts
		for _, s := range []string{"a", "ab", "abba", "azza", "bcd", "bd"} {
			for i := range len(s) {
				for b := range 256 {
					all = append(all, s[:i]+string([]byte{byte(b)})+s[i+1:])
				}
			}
		}
		compareWithDefinition(t, p, all, 7)
	}
}

func TestNoPattern(t *testing.T) {
	for _, p := range []string{
		"(", ")", "*", "A", "\x00", "\xff", "é", " ", "a(", "a)", "*a", "|*", "(*)", "(a", "a))", "(a))(b)", "a|*b",
		"(a|b)*c|(d", "aaaaaaaaaaa)", "************", "((((((((((((", "AAAAAAAAAAAA",
	} {
		for _, s := range slices.Concat(sample.Strings("ab", 2), texts{p[:1], "aaaaaaaa"}, sample.TooLong(api.MaxStar)) {
			compareError(t, p, s, api.ErrSyntax)
		}
	}
}

func TestTooLongPattern(t *testing.T) {
	for _, p := range slices.Concat(sample.TooLong(api.MaxPat), []string{
		"a************",
		"(a|b)*(a|b)*a",
		"|||||||||||||",
		"()()()()()()()",
		"*aaaaaaaaaaaa", // no patterns
		"(aaaaaaaaaaaa",
		"aaaaaaaaaaaaA",
		strings.Repeat("(", 50_000),
	}) {
		for _, s := range slices.Concat(texts{"", "a", "ab", "aaaaaaaa"}, sample.TooLong(api.MaxStar)) {
			compareError(t, p, s, api.ErrFull)
		}
	}
}

func TestTooLongText(t *testing.T) {
	for _, p := range []string{
		"", "|", "()", "a", "a*", "b", "(a|b)*", "(ab)*", "aaaaaaaaa", "abababababab", "a***********",
	} {
		for _, s := range slices.Concat(sample.TooLong(api.MaxStar), texts{
			"bbbbbbbbb", "ababababa", "zzzzzzzzz", "abababababab", "aaaaaaaa\x00", "\xffaaaaaaaa", "*********",
		}) {
			compareError(t, p, s, api.ErrFull)
		}
	}
}
