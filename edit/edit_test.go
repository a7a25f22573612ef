package edit

import (
	"errors"
	"slices"
	"strings"
	"testing"

	"letterbeck/api"
	"letterbeck/internal/sample"
)

// differences counts the operations of a script other than =.
func differences(script string) int {
	return len(script) - strings.Count(script, "=")
}

// better tells whether the script s is to be taken rather than t.
func better(s, t string) bool {
	if differences(s) != differences(t) {
		return differences(s) < differences(t)
	}
	return s < t
}

// scripts calls see with each edit script from a to b, behind the operations done.
func scripts(a, b, done string, see func(script string)) {
	if len(a) == 0 && len(b) == 0 {
		see(done)
		return
	}
	if len(a) > 0 {
		scripts(a[1:], b, done+"-", see)
	}
	if len(b) > 0 {
		scripts(a, b[1:], done+"+", see)
	}
	if len(a) > 0 && len(b) > 0 {
		sign := "!"
		if a[0] == b[0] {
			sign = "="
		}
		scripts(a[1:], b[1:], done+sign, see)
	}
}

// bestOfAll compares all edit scripts from a to b.
func bestOfAll(a, b string) string {
	best, found := "", false
	scripts(a, b, "", func(script string) {
		if !found || better(script, best) {
			best, found = script, true
		}
	})
	return best
}

// bestByPrefixes goes through a and b from the left, and compares whole scripts: of
// those from a[:i] to b[:j] only the best one can be the beginning of the best one for
// longer prefixes, as no two of them begin each other.
func bestByPrefixes(a, b string) string {
	best := make([][]string, len(a)+1)
	for i := range best {
		best[i] = make([]string, len(b)+1)
		for j := range best[i] {
			var all []string
			if i > 0 {
				all = append(all, best[i-1][j]+"-")
			}
			if j > 0 {
				all = append(all, best[i][j-1]+"+")
			}
			if i > 0 && j > 0 && a[i-1] == b[j-1] {
				all = append(all, best[i-1][j-1]+"=")
			}
			if i > 0 && j > 0 && a[i-1] != b[j-1] {
				all = append(all, best[i-1][j-1]+"!")
			}
			for k, script := range all {
				if k == 0 || better(script, best[i][j]) {
					best[i][j] = script
				}
			}
		}
	}
	return best[len(a)][len(b)]
}

// carryOut returns what the script makes of a, where b gives the new bytes, and whether
// each of its operations may stand at its place and uses up both strings at the end.
func carryOut(a, b, script string) (string, bool) {
	var made []byte
	for _, sign := range []byte(script) {
		ofA := sign == '=' || sign == '!' || sign == '-'
		ofB := sign == '=' || sign == '!' || sign == '+'
		if !ofA && !ofB || ofA && a == "" || ofB && b == "" {
			return string(made), false
		}
		if ofA && ofB && (a[0] == b[0]) != (sign == '=') {
			return string(made), false
		}
		if sign == '=' {
			made = append(made, a[0])
		} else if ofB {
			made = append(made, b[0])
		}
		if ofA {
			a = a[1:]
		}
		if ofB {
			b = b[1:]
		}
	}
	return string(made), a == "" && b == ""
}

func farWithoutError(t *testing.T, a, b string) int {
	t.Helper()
	far, err := Far(a, b)
	if err != nil {
		t.Fatalf("Far(%q, %q): error %v, want none", a, b, err)
	}
	return far
}

func stepsWithoutError(t *testing.T, a, b string) string {
	t.Helper()
	script, err := Steps(a, b)
	if err != nil {
		t.Fatalf("Steps(%q, %q): error %v, want none", a, b, err)
	}
	return script
}

// compare checks the script from a to b, that it makes b of a, and that the distance is
// the number of its differences.
func compare(t *testing.T, a, b, want string) {
	t.Helper()
	if got := farWithoutError(t, a, b); got != differences(want) {
		t.Fatalf("Far(%q, %q) = %d, want %d", a, b, got, differences(want))
	}
	got := stepsWithoutError(t, a, b)
	if got != want {
		t.Fatalf("Steps(%q, %q) = %q, want %q", a, b, got, want)
	}
	if made, ok := carryOut(a, b, got); made != b || !ok {
		t.Fatalf("Steps(%q, %q) = %q, which makes %q (%t)", a, b, got, made, ok)
	}
}

func TestFarWrittenOut(t *testing.T) {
	for _, c := range []struct {
		a, b string
		want int
	}{
		{"", "", 0},
		{"a", "", 1},
		{"", "a", 1},
		{"a", "a", 0},
		{"a", "b", 1},
		{"a", "ab", 1},
		{"ab", "b", 1},
		{"abc", "", 3},
		{"ab", "ba", 2},
		{"abc", "xyz", 3},
		{"abcd", "xy", 4},
		{"kitten", "sitting", 3},
		{"sunday", "saturday", 3},
		{"intention", "execution", 5},
		{"rosettacode", "raisethysword", 8},
		{"\x00\xff", "\xff\x00", 2},
		{strings.Repeat("ab", 12), strings.Repeat("ba", 12), 2},
		{sample.Repeated('a', api.MaxLen), "", api.MaxLen},
		{"", sample.Repeated('a', api.MaxLen), api.MaxLen},
		{sample.Repeated('a', api.MaxLen), sample.Repeated('b', api.MaxLen), api.MaxLen},
	} {
		if got := farWithoutError(t, c.a, c.b); got != c.want {
			t.Errorf("Far(%q, %q) = %d, want %d", c.a, c.b, got, c.want)
		}
	}
}

func TestWrittenOut(t *testing.T) {
	for _, c := range []struct{ a, b, want string }{
		{"", "", ""},
		{"a", "", "-"}, // one string is empty
		{"", "a", "+"},
		{"abc", "", "---"},
		{"", "abc", "+++"},
		{"\x00", "", "-"},
		{"", "\xff", "+"},
		{"a", "a", "="}, // equal strings
		{"abc", "abc", "==="},
		{"aaa", "aaa", "==="},
		{"\x00\xff\x00", "\x00\xff\x00", "==="},
		{"a", "b", "!"}, // single bytes
		{"a", "A", "!"},
		{"\x00", "\xff", "!"},
		{"\xfe", "\xff", "!"}, // two invalid bytes are not equal
		{"abc", "xbc", "!=="}, // one byte differs
		{"abc", "axc", "=!="},
		{"abc", "abx", "==!"},
		{"abc", "xabc", "+==="}, // one byte is inserted
		{"abc", "abxc", "==+="},
		{"abc", "abcx", "===+"},
		{"xabc", "abc", "-==="}, // one byte is deleted
		{"abxc", "abc", "==-="},
		{"abcx", "abc", "===-"},
		{"a", "ab", "=+"},
		{"ab", "b", "-="},
		{"abc", "xyz", "!!!"}, // nothing in common
		{"ab", "xyz", "!!+"},
		{"abc", "xy", "!!-"},
		{"abcd", "x", "!---"},
		{"x", "abcd", "!+++"},
		{"a", "aa", "+="}, // one byte repeated
		{"aa", "a", "-="},
		{"a", "aaaa", "+++="},
		{"aaaa", "a", "---="},
		{"aa", "bb", "!!"},
		{"aa", "bbb", "!!+"},
		{"\x00\x00\x00", "\x00\x00", "-=="},
		{"\xff", "\xff\xff", "+="},
	} {
		compare(t, c.a, c.b, c.want)
	}
}

// Several scripts have the smallest number of differences.
func TestSmallestScriptWrittenOut(t *testing.T) {
	for _, c := range []struct {
		a, b, want string
		others     []string
	}{
		{"ab", "ba", "!!", []string{"+=-", "-=+"}},
		{"\x00\xff", "\xff\x00", "!!", []string{"+=-", "-=+"}},
		{"abab", "baba", "+===-", []string{"-===+"}}, // inserting before deleting
		{"aaba", "abaab", "++===-", []string{"-===++", "=++==-", "=+=!!"}},
		{"abaab", "aaba", "+==-=-", []string{"--===+", "=+==--", "=!!=-"}},
		{"ab", "xyb", "!+=", []string{"+!="}}, // replacing before inserting
		{"ab", "axy", "=!+", []string{"=+!"}},
		{"bb", "aab", "!+=", []string{"+!="}},
		{"xyb", "ab", "!-=", []string{"-!="}}, // replacing before deleting
		{"axy", "ab", "=!-", []string{"=-!"}},
		{"aab", "bb", "!-=", []string{"-!="}},
		{"aab", "aaab", "+===", []string{"=+==", "==+="}}, // inserting in a run of equal bytes
		{"baab", "baaab", "=+===", []string{"==+==", "===+="}},
		{"aabb", "aaabbb", "+==+==", []string{"+===+=", "=+==+=", "==+=+="}},
		{"\xff", "\xff\xff\xff", "++=", []string{"+=+", "=++"}},
		{"aaab", "aab", "-===", []string{"=-==", "==-="}}, // deleting from a run of equal bytes
		{"baaab", "baab", "=-===", []string{"==-==", "===-="}},
		{"aaabbb", "aabb", "-==-==", []string{"-===-=", "=-==-=", "==-=-="}},
		{"\x00\x00\xff", "\x00\xff", "-==", []string{"=-="}},
		{"ab", "abab", "++==", []string{"=++=", "==++"}}, // inserting one of two equal parts
		{"abab", "ab", "--==", []string{"=--=", "==--"}},
		{"abcabc", "abc", "---===", []string{"=---==", "==---=", "===---"}},
		{"a", "aba", "++=", []string{"=++"}},
		{"aba", "a", "--=", []string{"=--"}},
		{"abcd", "dcba", "!!!!", []string{"+!=!-", "-!=!+", "!+=-!"}}, // reversals
		{"aab", "baa", "!=!", []string{"+==-"}},
		{"intention", "execution", "!!!!!====", []string{"!!-=+!====", "-!!=+!===="}},
	} {
		compare(t, c.a, c.b, c.want)
		for _, other := range c.others {
			made, ok := carryOut(c.a, c.b, other)
			if made != c.b || !ok || differences(other) != differences(c.want) || other <= c.want {
				t.Errorf("%q is no other script from %q to %q", other, c.a, c.b)
			}
		}
	}
}

// Only one script has the smallest number of differences.
func TestOnlyScriptWrittenOut(t *testing.T) {
	for _, c := range []struct{ a, b, want string }{
		{"ab", "cad", "+=!"},
		{"cab", "ad", "-=!"},
		{"aabb", "aaab", "==!="},
		{"abc", "ac", "=-="},
		{"banana", "ananas", "-=====+"},
		{"abcab", "bcabx", "-====+"},
		{"abcde", "xbcdy", "!===!"},
		{"abc", "cba", "!=!"}, // a reversal
		{"kitten", "sitting", "!===!=+"},
		{"flaw", "lawn", "-===+"},
		{"sunday", "saturday", "=++=!==="},
		{"é", "è", "=!"}, // of bytes, not of runes
		{"aé", "éa", "-==+"},
		{"a\x00b", "ab", "=-="}, // a zero byte does not end a string
		{"\x00\x01\x02", "\x00\x02", "=-="},
		{"!+-", "+-=", "-==+"}, // signs of operations are bytes like others
	} {
		compare(t, c.a, c.b, c.want)
	}
}

// All pairs of strings, with all of their scripts.
func TestAllScriptsOfShortStrings(t *testing.T) {
	for _, all := range [][]string{sample.Strings("ab", 5), sample.Strings("\x00z\xff", 3)} {
		for a, b := range sample.Pairs(all, all) {
			compare(t, a, b, bestOfAll(a, b))
		}
	}
	long := sample.Strings("ab", 8)
	for a, b := range sample.Pairs(long, sample.Strings("abc", 2)) {
		compare(t, a, b, bestOfAll(a, b))
		compare(t, b, a, bestOfAll(b, a))
	}
}

func TestAllShortStrings(t *testing.T) {
	for _, all := range [][]string{
		sample.Strings("ab", 7), sample.Strings("\x00z\xff", 4), sample.Strings("\x80\xc3\xa9a", 3),
	} {
		for a, b := range sample.Pairs(all, all) {
			compare(t, a, b, bestByPrefixes(a, b))
		}
	}
}

func TestEachByte(t *testing.T) {
	for a := range 256 {
		for b := range 256 {
			want := "!"
			if a == b {
				want = "="
			}
			compare(t, sample.Repeated(byte(a), 1), sample.Repeated(byte(b), 1), want)
		}
		sign, other := byte(a), byte(a+1)
		compare(t, "", sample.Repeated(sign, 1), "+")
		compare(t, sample.Repeated(sign, 1), "", "-")
		compare(t, sample.Repeated(sign, 2), string([]byte{sign, other, sign}), "=+=")
		compare(t, string([]byte{sign, other, sign}), sample.Repeated(sign, 2), "=-=")
	}
}

// Strings of bytes that all differ, in which one byte is another one, inserted or deleted.
func TestOneDifferenceAtEachPlace(t *testing.T) {
	const all = "abcdefghijklmnopqrstuvwx"
	for n := range api.MaxLen + 1 {
		s := all[:n]
		compare(t, s, s, sample.Repeated('=', n))
		for i := range n {
			before, behind := sample.Repeated('=', i), sample.Repeated('=', n-i-1)
			for _, other := range []string{"\x00", "\xff", "A"} {
				compare(t, s, s[:i]+other+s[i+1:], before+"!"+behind)
				compare(t, s[:i]+other+s[i+1:], s, before+"!"+behind)
			}
			compare(t, s, s[:i]+s[i+1:], before+"-"+behind)
			compare(t, s[:i]+s[i+1:], s, before+"+"+behind)
		}
	}
}

// A byte more or less of a run is the first one of that run.
func TestOneByteRepeated(t *testing.T) {
	for _, sign := range []byte{0, 'a', 0x80, 255} {
		for m := range api.MaxLen + 1 {
			for n := range api.MaxLen + 1 {
				a, b := sample.Repeated(sign, m), sample.Repeated(sign, n)
				same := sample.Repeated('=', min(m, n))
				less, more := sample.Repeated('-', max(m-n, 0)), sample.Repeated('+', max(n-m, 0))
				compare(t, a, b, less+more+same)
				others := sample.Repeated('!', min(m, n))
				compare(t, a, sample.Repeated(sign+1, n), others+more+less)
				if max(m, n) <= api.MaxLen-2 {
					compare(t, "x"+a+"y", "x"+b+"y", "="+less+more+same+"=")
				}
			}
		}
	}
}

func TestLongStrings(t *testing.T) {
	for _, pair := range sample.LongPairs() {
		compare(t, pair[0], pair[1], bestByPrefixes(pair[0], pair[1]))
	}
}

func TestReversals(t *testing.T) {
	for _, s := range slices.Concat(sample.Strings("ab", 12), sample.Strings("\x00z\xff", 7)) {
		compare(t, s, sample.Reversed(s), bestByPrefixes(s, sample.Reversed(s)))
	}
}

// Where all bytes differ, as many as possible are replaced, at first.
func TestNothingInCommon(t *testing.T) {
	a, b := strings.Repeat("abcb", api.MaxLen/4), strings.Repeat("\xff\x00z", api.MaxLen/3)
	for m := range api.MaxLen + 1 {
		for n := range api.MaxLen + 1 {
			want := sample.Repeated('!', min(m, n)) + sample.Repeated('-', max(m-n, 0)) + sample.Repeated('+', max(n-m, 0))
			compare(t, a[:m], b[:n], want)
			compare(t, b[:n], a[:m], strings.NewReplacer("-", "+", "+", "-").Replace(want))
		}
	}
}

// The distance is one in the sense of geometry.
func TestDistance(t *testing.T) {
	all := sample.Strings("ab", 4)
	for a, b := range sample.Pairs(all, all) {
		far := farWithoutError(t, a, b)
		if far != farWithoutError(t, b, a) || (far == 0) != (a == b) {
			t.Fatalf("Far(%q, %q) = %d", a, b, far)
		}
		if far != farWithoutError(t, sample.Reversed(a), sample.Reversed(b)) {
			t.Fatalf("Far(%q, %q) = %d, another one than of the reversals", a, b, far)
		}
		for _, c := range all {
			if far > farWithoutError(t, a, c)+farWithoutError(t, c, b) {
				t.Fatalf("Far(%q, %q) = %d, more than through %q", a, b, far, c)
			}
		}
	}
}

func compareTooLong(t *testing.T, a, b string) {
	t.Helper()
	far, err := Far(a, b)
	if !errors.Is(err, api.ErrFull) || far != 0 {
		t.Errorf("Far of %d and %d bytes = %d, %v, want 0, ErrFull", len(a), len(b), far, err)
	}
	script, err := Steps(a, b)
	if !errors.Is(err, api.ErrFull) || script != "" {
		t.Errorf("Steps of %d and %d bytes = %q, %v, want nothing, ErrFull", len(a), len(b), script, err)
	}
}

func TestTooLong(t *testing.T) {
	short := []string{"", "a", "ab", sample.Repeated('a', api.MaxLen)}
	for long, s := range sample.Pairs(sample.TooLong(api.MaxLen), short) {
		compareTooLong(t, long, s)
		compareTooLong(t, s, long)
	}
	for a, b := range sample.Pairs(sample.TooLong(api.MaxLen), sample.TooLong(api.MaxLen)) {
		compareTooLong(t, a, b)
	}
}

// The arguments stay as they are, whether the calls succeed or not, and the same calls
// have the same results.
func TestArgumentsStay(t *testing.T) {
	all := append(sample.TooLong(api.MaxLen), "", "abab", "baba", "\x00\xff", sample.Repeated('a', api.MaxLen))
	before := make([]string, len(all))
	for i, s := range all {
		before[i] = strings.Clone(s)
	}
	for a, b := range sample.Pairs(all, all) {
		far, farErr := Far(a, b)
		script, scriptErr := Steps(a, b)
		farAgain, farErrAgain := Far(a, b)
		scriptAgain, scriptErrAgain := Steps(a, b)
		if far != farAgain || script != scriptAgain {
			t.Errorf("%d, %q, then %d, %q", far, script, farAgain, scriptAgain)
		}
		if !errors.Is(farErrAgain, farErr) || !errors.Is(scriptErrAgain, scriptErr) {
			t.Errorf("%v, %v, then %v, %v", farErr, scriptErr, farErrAgain, scriptErrAgain)
		}
	}
	if !slices.Equal(all, before) {
		t.Errorf("the arguments have become %q, want %q", all, before)
	}
}
