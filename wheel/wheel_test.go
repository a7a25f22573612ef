package wheel

import (
	"errors"
	"math"
	"slices"
	"strings"
	"testing"

	"letterbeck/api"
	"letterbeck/internal/sample"
	"letterbeck/turn"
)

// sortedByDefinition puts each rotation of s behind as many others as are smaller, and
// equal ones one behind the other.
func sortedByDefinition(s string) []string {
	sorted := make([]string, len(s))
	for i := range len(s) {
		rotation := s[i:] + s[:i]
		place := 0
		for j := range len(s) {
			other := s[j:] + s[:j]
			if other < rotation || other == rotation && j < i {
				place++
			}
		}
		sorted[place] = rotation
	}
	return sorted
}

// thereByDefinition returns the last bytes of the sorted rotations, and the number of
// rotations that are smaller than s.
func thereByDefinition(s string) (string, int) {
	var last strings.Builder
	at := 0
	for _, rotation := range sortedByDefinition(s) {
		last.WriteByte(rotation[len(s)-1])
		if rotation < s {
			at++
		}
	}
	return last.String(), at
}

func compareThere(t *testing.T, s, want string, wantAt int) {
	t.Helper()
	got, at, err := There(s)
	if err != nil {
		t.Fatalf("There(%q): error %v, want none", s, err)
	}
	if got != want || at != wantAt {
		t.Fatalf("There(%q) = %q, %d, want %q, %d", s, got, at, want, wantAt)
	}
}

func compareBack(t *testing.T, transform string, at int, want string) {
	t.Helper()
	got, err := Back(transform, at)
	if err != nil {
		t.Fatalf("Back(%q, %d): error %v, want none", transform, at, err)
	}
	if got != want {
		t.Fatalf("Back(%q, %d) = %q, want %q", transform, at, got, want)
	}
}

func compareBackError(t *testing.T, transform string, at int, want api.Errno) {
	t.Helper()
	got, err := Back(transform, at)
	if !errors.Is(err, want) || got != "" {
		t.Fatalf("Back(%.30q, %d) = %q, %v, want nothing, %v", transform, at, got, err, want)
	}
}

// compareWithDefinition checks the transform of s, and the way back from each index.
func compareWithDefinition(t *testing.T, s string) {
	t.Helper()
	transform, at := thereByDefinition(s)
	compareThere(t, s, transform, at)
	compareBack(t, transform, at, s)
	for i, rotation := range sortedByDefinition(s) {
		compareBack(t, transform, i, rotation)
	}
}

func TestWrittenOut(t *testing.T) {
	for _, c := range []struct {
		s, transform string
		at           int
	}{
		{"", "", 0},
		{"a", "a", 0}, // a single byte
		{"\x00", "\x00", 0},
		{"\xff", "\xff", 0},
		{"aa", "aa", 0}, // one byte repeated: of equal rotations the first one counts
		{"aaaaa", "aaaaa", 0},
		{"aba", "baa", 1},
		{"abab", "bbaa", 0}, // repetitions
		{"baba", "bbaa", 2},
		{"ababab", "bbbaaa", 0},
		{"bababa", "bbbaaa", 3},
		{"aabaab", "bbaaaa", 0},
		{"abcabcabc", "cccaaabbb", 0},
		{"bcabcabca", "cccaaabbb", 3},
		{"cabcabcab", "cccaaabbb", 6},
		{"aab", "baa", 0}, // its own smallest rotation
		{"aabab", "bbaaa", 0},
		{"abb", "bba", 0},
		{"ba", "ba", 1}, // bytes that fall
		{"bba", "bba", 2},
		{"dcba", "bcda", 3},
		{"ab", "ba", 0}, // bytes that rise
		{"abcd", "dabc", 0},
		{"badc", "bcda", 1},     // bytes that all differ
		{"abanan", "nnbaaa", 0}, // a string and its rotations
		{"anaban", "nnbaaa", 1},
		{"ananab", "nnbaaa", 2},
		{"banana", "nnbaaa", 3},
		{"nabana", "nnbaaa", 4},
		{"nanaba", "nnbaaa", 5},
		{"mississippi", "pssmipissii", 4},
		{"abracadabra", "rdarcaaaabb", 2},
		{"aBAb", "BabA", 2}, // by the numbers of the bytes
		{"a b", "ab ", 1},
		{"zab\x00", "bza\x00", 3},   // a zero byte is a byte like others
		{"\x7f\x80", "\x80\x7f", 0}, // bytes that are not ASCII
		{"\x80\x7f", "\x80\x7f", 1},
		{"\x00\xff\x00", "\xff\x00\x00", 1},
		{"\xff\xfe\xff\xfe", "\xff\xff\xfe\xfe", 2}, // two invalid bytes are not equal
		{"é", "\xc3\xa9", 1},                        // of bytes, not of runes
		{"éé", "\xc3\xc3\xa9\xa9", 2},
		{"éè", "\xc3\xc3\xa9\xa8", 3},
		{"aéa", "\xa9a\xc3a", 1},
		{"日本", "\xe6\xe6\x97\x9c\xac\xa5", 4},
	} {
		compareThere(t, c.s, c.transform, c.at)
		compareBack(t, c.transform, c.at, c.s)
	}
}

// At each index of a transform stands a rotation, also where several are equal.
func TestBackAtEachIndex(t *testing.T) {
	for _, c := range []struct {
		transform string
		want      []string
	}{
		{"a", []string{"a"}},
		{"aaa", []string{"aaa", "aaa", "aaa"}},
		{"ba", []string{"ab", "ba"}},
		{"baa", []string{"aab", "aba", "baa"}},
		{"bbaa", []string{"abab", "abab", "baba", "baba"}},
		{"bbaaaa", []string{"aabaab", "aabaab", "abaaba", "abaaba", "baabaa", "baabaa"}},
		{"dabc", []string{"abcd", "bcda", "cdab", "dabc"}},
		{"bcda", []string{"adcb", "badc", "cbad", "dcba"}},
		{"nnbaaa", []string{"abanan", "anaban", "ananab", "banana", "nabana", "nanaba"}},
		{"\xc3\xa9", []string{"\xa9\xc3", "é"}},
	} {
		for at, want := range c.want {
			compareBack(t, c.transform, at, want)
		}
		compareBackError(t, c.transform, len(c.want), api.ErrRange)
	}
}

func TestMaxLenWrittenOut(t *testing.T) {
	const n = api.MaxLen
	rising := "abcdefghijklmnopqrstuvwx"
	for _, c := range []struct {
		s, transform string
		at           int
	}{
		{rising, rising[n-1:] + rising[:n-1], 0},
		{rising[7:] + rising[:7], rising[n-1:] + rising[:n-1], 7},
		{"xwvutsrqponmlkjihgfedcba", rising[1:] + "a", n - 1},
		{strings.Repeat("a", n), strings.Repeat("a", n), 0},
		{strings.Repeat("a", n-1) + "b", "b" + strings.Repeat("a", n-1), 0},
		{"b" + strings.Repeat("a", n-1), "b" + strings.Repeat("a", n-1), n - 1},
		{strings.Repeat("ab", n/2), strings.Repeat("b", n/2) + strings.Repeat("a", n/2), 0},
		{strings.Repeat("ba", n/2), strings.Repeat("b", n/2) + strings.Repeat("a", n/2), n / 2},
	} {
		compareThere(t, c.s, c.transform, c.at)
		compareBack(t, c.transform, c.at, c.s)
	}
}

// compareAllUpTo checks all strings of at most n bytes over the alphabet, and takes each
// of them for a transform too: a transform has the bytes of its string, so that those
// that none of the strings has are the transform of no string at all.
func compareAllUpTo(t *testing.T, alphabet string, n int) {
	t.Helper()
	transforms := make(map[string]bool)
	all := sample.Strings(alphabet, n)
	for _, s := range all {
		compareWithDefinition(t, s)
		transform, _ := thereByDefinition(s)
		transforms[transform] = true
	}
	for _, s := range all {
		if transforms[s] {
			continue
		}
		for at := range len(s) {
			compareBackError(t, s, at, api.ErrClash)
		}
	}
}

func TestAllShortStrings(t *testing.T) {
	compareAllUpTo(t, "ab", 10)
	compareAllUpTo(t, "\x00z\xff", 7)
	compareAllUpTo(t, "abcd", 5)
}

func TestStringsOfMaxLen(t *testing.T) {
	for _, s := range sample.Strings("ab", 6)[1:] {
		long := strings.Repeat(s, api.MaxLen)
		compareWithDefinition(t, long[:api.MaxLen])
		compareWithDefinition(t, long[:api.MaxLen-1])
		compareWithDefinition(t, long[:api.MaxLen-1]+"c")
		compareWithDefinition(t, "\x00"+long[:api.MaxLen-1])
		compareWithDefinition(t, long[:api.MaxLen/2]+"\xff"+long[:api.MaxLen/2-1])
	}
}

// Strings have the same transform if, and only if, they are rotations of each other.
func TestTransformsOfRotations(t *testing.T) {
	all := sample.Strings("ab", 7)
	for a, b := range sample.Pairs(all, all) {
		same, err := turn.Same(a, b)
		if err != nil {
			t.Fatalf("turn.Same(%q, %q): error %v", a, b, err)
		}
		transformOfA, _, _ := There(a)
		transformOfB, _, _ := There(b)
		if (transformOfA == transformOfB) != same {
			t.Fatalf("There has %q for %q and %q for %q", transformOfA, a, transformOfB, b)
		}
	}
}

func TestThereTooLong(t *testing.T) {
	for _, s := range tooLong() {
		got, at, err := There(s)
		if !errors.Is(err, api.ErrFull) || got != "" || at != 0 {
			t.Errorf("There of %d bytes = %q, %d, %v, want nothing, 0, ErrFull", len(s), got, at, err)
		}
	}
}

// An index that is out of range, or bytes that are no transform, do not hide the error.
func TestBackTooLong(t *testing.T) {
	for _, s := range tooLong() {
		for _, at := range []int{math.MinInt, -1, 0, 1, api.MaxLen, len(s) - 1, len(s), math.MaxInt} {
			compareBackError(t, s, at, api.ErrFull)
		}
	}
}

func tooLong() []string {
	return []string{
		strings.Repeat("a", api.MaxLen+1),
		"b" + strings.Repeat("a", api.MaxLen),
		"abcdefghijklmnopqrstuvwxy", // the transform of no string
		strings.Repeat("ab", api.MaxLen),
		strings.Repeat("é", api.MaxLen/2+1), // fewer runes than MaxLen, but more bytes
		strings.Repeat("\x00", 100_000),
	}
}

// The strings that are transforms of none must not hide that the index is out of range.
func TestBackOutOfRange(t *testing.T) {
	for _, s := range []string{
		"", "a", "aa", "baa", "nnbaaa", strings.Repeat("a", api.MaxLen),
		"ab", "banana", "abcdefghijklmnopqrstuvwx",
	} {
		outside := []int{
			math.MinInt, math.MinInt32, -1 << 32, -len(s) - 1, -1,
			max(len(s), 1), len(s) + 1, api.MaxLen + 1, 1 << 32, math.MaxInt - 1, math.MaxInt,
		}
		for _, at := range outside {
			compareBackError(t, s, at, api.ErrRange)
		}
	}
}

func TestBackOfNoTransform(t *testing.T) {
	for _, s := range []string{
		"ab", "abc", "aab", "aaab",
		"bab", // its steps lead back to their start too early
		"abab", "baab", "abba",
		"abcd", "dcba", "badc",
		"banana", "mississippi",
		"\x7f\x80", "\xa9\xc3", "日本",
		"abcdefghijklmnopqrstuvwx",
		strings.Repeat("a", api.MaxLen-1) + "b",
		strings.Repeat("ab", api.MaxLen/2),
	} {
		for at := range len(s) {
			compareBackError(t, s, at, api.ErrClash)
		}
		compareBackError(t, s, -1, api.ErrRange)
		compareBackError(t, s, len(s), api.ErrRange)
	}
}

// A loop over the sequences may end early.
func TestSequencesStop(t *testing.T) {
	var got []string
	for rotation := range rotations("abcd") {
		got = append(got, rotation)
		if rotation == "bcda" {
			break
		}
	}
	if want := []string{"abcd", "bcda"}; !slices.Equal(got, want) {
		t.Errorf("rotations yields %q, want %q", got, want)
	}
	steps := walk([]int{2, 0, 3, 1}, 1)
	for range 2 {
		var rows []int
		for row := range steps {
			rows = append(rows, row)
			if row == 2 {
				break
			}
		}
		if want := []int{0, 2}; !slices.Equal(rows, want) {
			t.Errorf("walk yields %v, want %v", rows, want)
		}
	}
}
