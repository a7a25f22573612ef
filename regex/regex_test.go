package regex

import (
	"errors"
	"maps"
	"reflect"
	"slices"
	"strings"
	"testing"

	"letterbeck/api"
	"letterbeck/internal/sample"
)

// A definition holds all patterns of up to some bytes whose only letter is 'a', and
// whether the empty string matches them, which is the same for other letters.
type definition map[string]bool

// define returns the definition for patterns of at most n bytes, by putting together the
// items, alternatives and patterns of each length.
func define(n int) definition {
	both := func(a, b bool) bool { return a && b }
	either := func(a, b bool) bool { return a || b }
	items, alternatives, patterns := make([]definition, n+1), make([]definition, n+1), make([]definition, n+1)
	all := definition{}
	for k := range n + 1 {
		items[k], alternatives[k], patterns[k] = definition{}, definition{}, definition{}
		switch k {
		case 0:
			alternatives[0][""] = true
		case 1:
			items[1]["a"] = false
		default:
			for item := range items[k-1] {
				items[k][item+"*"] = true
			}
			for pattern, null := range patterns[k-2] {
				items[k]["("+pattern+")"] = null
			}
		}
		for j := range k {
			alternatives[k].join(items[j+1], "", alternatives[k-1-j], both)
			patterns[k].join(alternatives[j], "|", patterns[k-1-j], either)
		}
		maps.Copy(patterns[k], alternatives[k])
		maps.Copy(all, patterns[k])
	}
	return all
}

// join adds the strings of first, each with those of second behind it and with a string
// between them.
func (d definition) join(first definition, between string, second definition, null func(a, b bool) bool) {
	for a, nullA := range first {
		for b, nullB := range second {
			d[a+between+b] = null(nullA, nullB)
		}
	}
}

// compare checks a string that is short enough for the definition.
func (d definition) compare(t *testing.T, s string) {
	t.Helper()
	normal := []byte(s)
	for i := range normal {
		if 'b' <= normal[i] && normal[i] <= 'z' {
			normal[i] = 'a'
		}
	}
	if null, is := d[string(normal)]; is {
		comparePattern(t, s, null)
	} else {
		compareError(t, s, api.ErrSyntax)
	}
}

// signsByDefinition returns the results of Signs for a pattern.
func signsByDefinition(p string) (string, int) {
	letters, many := "", 0
	for letter := 'a'; letter <= 'z'; letter++ {
		if occurrences := strings.Count(p, string(letter)); occurrences > 0 {
			letters += string(letter)
			many += occurrences
		}
	}
	return letters, many
}

// comparePattern checks the four functions on a pattern that the empty string matches or
// not.
func comparePattern(t *testing.T, p string, want bool) {
	t.Helper()
	if err := Check(p); err != nil {
		t.Fatalf("Check(%q) = %v, want no error", p, err)
	}
	if null, err := Null(p); null != want || err != nil {
		t.Fatalf("Null(%q) = %t, %v, want %t", p, null, err, want)
	}
	letters, many := signsByDefinition(p)
	compareSigns(t, p, letters, many)
	if whole, err := Parse(p); err != nil || whole.String() != "("+p+")" || whole.Null() != want {
		t.Fatalf("Parse(%q) = %v, %v", p, whole, err)
	}
}

func compareSigns(t *testing.T, p, wantLetters string, wantMany int) {
	t.Helper()
	letters, many, err := Signs(p)
	if letters != wantLetters || many != wantMany || err != nil {
		t.Fatalf("Signs(%q) = %q, %d, %v, want %q, %d", p, letters, many, err, wantLetters, wantMany)
	}
}

// compareError checks the four functions on a string that is no pattern or too long.
func compareError(t *testing.T, s string, want error) {
	t.Helper()
	if err := Check(s); !errors.Is(err, want) {
		t.Fatalf("Check(%q) = %v, want %v", s, err, want)
	}
	if null, err := Null(s); null || !errors.Is(err, want) {
		t.Fatalf("Null(%q) = %t, %v, want false, %v", s, null, err, want)
	}
	if letters, many, err := Signs(s); letters != "" || many != 0 || !errors.Is(err, want) {
		t.Fatalf("Signs(%q) = %q, %d, %v, want nothing, %v", s, letters, many, err, want)
	}
	if whole, err := Parse(s); whole != nil || !errors.Is(err, want) {
		t.Fatalf("Parse(%q) = %v, %v, want nothing, %v", s, whole, err, want)
	}
}

func TestNullWrittenOut(t *testing.T) {
	for _, p := range []string{
		"", // one empty alternative

		"|", "||", "|||||||||||", // empty alternatives
		"a|", "|a", "a||b", "|a|b", "a|b|", "(|a)", "(a|)", "(a||b)", "ab|", "|ab", "(ab|)", "abcdefghijk|",

		"()", "()*", "()**", "()()", "(())", "((()))", "()()*()", "(|)", "(|)*", "((|)|)", "((((()))))",
		"(((((())))))", "()()()()()()", "(((((|)))))*",

		"a*", "a**", "a***", "a***********", "(a)*", "(a)**", "(a*)", "(a*)*", "(a**)**", "((a)*)", "((a))*",
		"(ab)*", "(a|b)*", "(a*b)*", "(a*|b)", "(a|b*)",

		"a*b*", "a*b*c*d*e*f*", "(ab)*(cd)*", "a*()b*", "(a*)(b*)", "(a*b*)", "()a*", "a*()", "(a|)(b|)", "(|a)(|b)",

		"a*|b", "a|b*", "a|b|c*", "a*|b|c", "a|b*|c", "ab|c*", "a*b|c*", "ab|()", "()|a", "a|()|b", "a|(b|(c|))",
		"a(b*)|(c*)d*",
	} {
		comparePattern(t, p, true)
	}
	for _, p := range []string{
		"a", "z", "m", "(a)", "((a))", "(((((a)))))", "ab", "(ab)", "(a)(b)", "abcdefghijkl", "zzzzzzzzzzzz",

		"a|b", "(a|b)", "a|b|c", "ab|cd|ef", "a|b|c|d|e|fg", "(a)|(b)", "((a|b)|c)", "a|(b|(c|d))",

		"a*b", "ab*", "aa*", "a*a", "a*ba*", "a*b*c", "ab*c*", "a*b*c*d*e*ff", "(ab)*c", "a(bc)*", "(a*b)", "(ab*)",
		"(a|b)*a", "a(a|b)*", "(a)*a(a)*", // not all items match the empty string

		"()a", "a()", "(a)()", "()(a)", "()a()", "a()*", "()*a", "(|)a", "a(|)", "(a|)b", "a(|b)", "(|a)b", "a(b|)c",

		"a*b|c", "a|b*c", "ab*|a*b", "a()|()b", "(a|)b|c", "a|(b|c)d*", "(a*|b)(c|d)",
	} {
		comparePattern(t, p, false)
	}
}

func TestSignsWrittenOut(t *testing.T) {
	for _, c := range []struct {
		p, letters string
		many       int
	}{
		{"", "", 0},
		{"|", "", 0},
		{"()", "", 0},
		{"(|)*()", "", 0},
		{"a", "a", 1},
		{"z", "z", 1},
		{"m*", "m", 1},
		{"a***********", "a", 1}, // the stars are no occurrences
		{"(((((a)))))", "a", 1},

		{"(a|b)*a", "ab", 3}, // occurrences, not different letters
		{"aa", "a", 2},
		{"a|a", "a", 2},
		{"a*a*", "a", 2},
		{"(a)(a)|(a)", "a", 3},
		{"aba", "ab", 3},
		{"zaz", "az", 3},
		{"ab|ab|ab", "ab", 6},
		{"aaaaaaaaaaaa", "a", 12},
		{"zzzzzzzzzzzz", "z", 12},
		{"abababababab", "ab", 12},

		{"ba", "ab", 2}, // in increasing order
		{"za", "az", 2},
		{"az", "az", 2},
		{"b|a", "ab", 2},
		{"b*(a)", "ab", 2},
		{"cab", "abc", 3},
		{"(c|(b|(a)))", "abc", 3},
		{"zyxwvutsrqpo", "opqrstuvwxyz", 12},
		{"lkjihgfedcba", "abcdefghijkl", 12},
		{"mississippi", "imps", 11},
		{"banana|bandn", "abdn", 11},
		{"|z|y|y|a|z|a", "ayz", 6},
	} {
		compareSigns(t, c.p, c.letters, c.many)
	}
}

func TestParseWrittenOut(t *testing.T) {
	a, b, c := Letter('a'), Letter('b'), Letter('c')
	for _, want := range []struct {
		p     string
		whole Choice
	}{
		{"", Choice{nil}},
		{"|", Choice{nil, nil}},
		{"a", Choice{{a}}},
		{"z", Choice{{Letter('z')}}},
		{"abc", Choice{{a, b, c}}},
		{"a|bc||", Choice{{a}, {b, c}, nil, nil}},
		{"()", Choice{{Choice{nil}}}},
		{"(a)", Choice{{Choice{{a}}}}},
		{"((a|)b)", Choice{{Choice{{Choice{{a}, nil}, b}}}}},
		{"a(b|c)", Choice{{a, Choice{{b}, {c}}}}},
		{"a|(b|c)", Choice{{a}, {Choice{{b}, {c}}}}},

		{"ab*", Choice{{a, Starred{b}}}}, // a star belongs to the item ahead of it
		{"a*|b", Choice{{Starred{a}}, {b}}},
		{"(ab)*c", Choice{{Starred{Choice{{a, b}}}, c}}},
		{"a**", Choice{{Starred{Starred{a}}}}},
		{"()*", Choice{{Starred{Choice{nil}}}}},
		{"(a|b)*a", Choice{{Starred{Choice{{a}, {b}}}, a}}},
		{"(a*)*b*", Choice{{Starred{Choice{{Starred{a}}}}, Starred{b}}}},
	} {
		whole, err := Parse(want.p)
		if !reflect.DeepEqual(whole, want.whole) || err != nil {
			t.Fatalf("Parse(%q) = %#v, %v, want %#v", want.p, whole, err, want.whole)
		}
	}
}

func TestNoPattern(t *testing.T) {
	for _, s := range []string{
		"*", "**", "*a", "*|a", "*()", "************", // a star behind nothing
		"|*", "|**", "a|*", "a*|*", "|*a", "||*", "(a|*)", "a|*|b", "()|*", "abcdefghij|*",
		"(*", "(*)", "(*a)", "a(*b)", "((*))", "(a)(*)", "(a|(*))", "()(*)*",

		")", "))", ")a", "a)", "a*)", "|)", ")|", "a|b)", // closed without being opened
		"())", "(a))", "(a))(b)", "a)(b)", "(a)b)", "(a)(b))", ")()", "()()())", ")*", "a)*", "(a))*", "())()",
		")(", ")a(", "())(", "(a))(", "a)b(c", ")()(", "))((", "((((()))))))",

		"(", "((", "((((((((((((", "a(", "(a", "(|", "(a|b", "a|(", "a*(", "(a*", // left open
		"(()", "()(", "((a)", "(a)(", "(a)(b", "(a(b)", "((a)b", "(a)|(", "((a)*", "(()()()()()", "a|b|c|d|e|(",

		"A", "Z", "aA", "Aa", "(A)", "A*", "a|B", "ABC", // other bytes
		"`", "{", "a`", "{a", "@", "[", "}", "~", "0", "9", "1a", "é", "(é)*", "ａ",
		"\x00", "\xff", "a\x00", "\x00a", "a\xff", "\xffa", "(\x00)", "(\xff)", "\x00*", "\xff|", "|\x00", "\x80", "\x7f",
		"'", "+", "a+", "a?", "a.", ".*", "^a$", "[a]", `\a`, " ", "a ", " a", "a | b", "( )", "a\n", "\t", "a&b", "a/b",
		"\xe1", "\xfa", "a\xfcb", "\xa8\xa9", "a\xaa", // bytes of patterns with the highest bit

		"*A", "A*", "(A", "A)", ")A", "*)", "(*", "a|*\x00", // several faults
	} {
		compareError(t, s, api.ErrSyntax)
	}
}

func TestAllShortStrings(t *testing.T) {
	d := define(8)
	for _, s := range slices.Concat(
		sample.Strings("a|()*", 8),
		sample.Strings("az|()*", 5),
		sample.Strings("aA|()*\x00\xff", 5),
		sample.Strings("a`{", 6),
	) {
		d.compare(t, s)
	}
}

func TestAllPatterns(t *testing.T) {
	for p, null := range define(10) {
		comparePattern(t, p, null)
	}
}

func TestEachByte(t *testing.T) {
	d := define(9)
	for _, s := range []string{"", "a", "z*", "|", "()", "(a|b)*a", "((ab)*c)", "a|(b|)*c", "*", ")", "(", "a|*b"} {
		for i := range len(s) + 1 {
			for b := range 256 {
				one := string([]byte{byte(b)})
				d.compare(t, s[:i]+one)
				d.compare(t, s[:i]+one+s[i:])
				d.compare(t, s[:i]+one+s[min(i+1, len(s)):])
			}
		}
	}
}

func TestOneByteRepeated(t *testing.T) {
	for b := range 256 {
		for n := 1; n <= api.MaxPat; n++ {
			s := sample.Repeated(byte(b), n)
			switch {
			case strings.Contains("abcdefghijklmnopqrstuvwxyz", s[:1]):
				comparePattern(t, s, false)
				compareSigns(t, s, s[:1], n)
			case b == '|':
				comparePattern(t, s, true)
			default:
				compareError(t, s, api.ErrSyntax)
			}
		}
	}
}

// Whether the empty string matches a pattern of two others, of up to MaxPat bytes,
// depends on whether it matches these.
func TestTwoPatterns(t *testing.T) {
	d := define(4)
	for p, nullP := range d {
		for q, nullQ := range d {
			q = strings.ReplaceAll(q, "a", "z")
			comparePattern(t, "("+p+")("+q+")", nullP && nullQ)
			comparePattern(t, p+"|"+q, nullP || nullQ)
			comparePattern(t, "("+p+"|"+q+")", nullP || nullQ)
			comparePattern(t, "("+p+"|"+q+")*", true)
		}
	}
}

func TestStars(t *testing.T) {
	for p, null := range define(6) {
		item := "(" + p + ")"
		for n := range api.MaxPat - len(item) + 1 {
			comparePattern(t, item+strings.Repeat("*", n), null || n > 0)
			if n > 0 {
				comparePattern(t, item+strings.Repeat("*", n-1)+"x", false)
				comparePattern(t, "x"+item+strings.Repeat("*", n-1), false)
				comparePattern(t, "|"+item+strings.Repeat("*", n-1), true)
			}
		}
	}
}

func TestNested(t *testing.T) {
	for n := range api.MaxPat / 2 {
		open, closed := strings.Repeat("(", n), strings.Repeat(")", n)
		comparePattern(t, open+closed, true)
		comparePattern(t, open+"|"+closed, true)
		comparePattern(t, open+"a"+closed, false)
		for _, s := range []string{"(", ")", "*", "A"} {
			compareError(t, open+s+closed, api.ErrSyntax)
		}
	}
	comparePattern(t, strings.Repeat("(", api.MaxPat/2)+strings.Repeat(")", api.MaxPat/2), true)
}

func TestEachTwoLetters(t *testing.T) {
	for a := 'a'; a <= 'z'; a++ {
		for b := 'a'; b <= 'z'; b++ {
			first, second := string(a), string(b)
			comparePattern(t, first+second, false)
			comparePattern(t, "("+first+"|"+second+"*)*"+first, false)
			comparePattern(t, first+"*|"+second+second+second, true)
		}
	}
}

func TestTooLong(t *testing.T) {
	const n = api.MaxPat
	for _, s := range slices.Concat(sample.TooLong(n), []string{
		strings.Repeat("|", n+1), // patterns
		strings.Repeat("()", n/2+1),
		"a" + strings.Repeat("*", n),
		strings.Repeat("(", n) + strings.Repeat(")", n),
		"(a|b)*(a|b)*a",
		strings.Repeat("z", 50_000),
		strings.Repeat("*", n+1), // none
		"*" + strings.Repeat("a", n),
		"|" + strings.Repeat("*", n),
		"(" + strings.Repeat("*", n),
		strings.Repeat(")", n+1),
		strings.Repeat("(", n+1),
		strings.Repeat("(", 50_000),
		strings.Repeat("(", 50_000) + strings.Repeat(")", 50_000),
		strings.Repeat("a", n) + "A",
		"\x00" + strings.Repeat("a", n),
		strings.Repeat("a", n) + "\xff",
		strings.Repeat("A", n+1),
	}) {
		compareError(t, s, api.ErrFull)
	}
}
