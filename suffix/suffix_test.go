package suffix

import (
	"errors"
	"slices"
	"strings"
	"testing"

	"letterbeck/api"
	"letterbeck/internal/sample"
)

// orderByDefinition puts each suffix behind as many others as are smaller.
func orderByDefinition(s string) []int {
	starts := make([]int, len(s))
	for i := range len(s) {
		smaller := 0
		for j := range len(s) {
			if s[j:] < s[i:] {
				smaller++
			}
		}
		starts[smaller] = i
	}
	return starts
}

// alikeByDefinition tries all prefixes of each suffix on the next one.
func alikeByDefinition(s string) []int {
	var lengths []int
	starts := orderByDefinition(s)
	for i := 0; i+1 < len(starts); i++ {
		suffix, next := s[starts[i]:], s[starts[i+1]:]
		long := 0
		for n := 1; n <= len(suffix); n++ {
			if strings.HasPrefix(next, suffix[:n]) {
				long = n
			}
		}
		lengths = append(lengths, long)
	}
	return lengths
}

// countByDefinition collects all nonempty substrings.
func countByDefinition(s string) int {
	substrings := make(map[string]bool)
	for end := range len(s) + 1 {
		for begin := range end {
			substrings[s[begin:end]] = true
		}
	}
	return len(substrings)
}

func compareOrder(t *testing.T, s string, want []int) {
	t.Helper()
	got, err := Order(s)
	if err != nil {
		t.Fatalf("Order(%q): error %v, want none", s, err)
	}
	if !slices.Equal(got, want) {
		t.Fatalf("Order(%q) = %v, want %v", s, got, want)
	}
}

func compareAlike(t *testing.T, s string, want []int) {
	t.Helper()
	got, err := Alike(s)
	if err != nil {
		t.Fatalf("Alike(%q): error %v, want none", s, err)
	}
	if !slices.Equal(got, want) {
		t.Fatalf("Alike(%q) = %v, want %v", s, got, want)
	}
}

func compareCount(t *testing.T, s string, want int) {
	t.Helper()
	got, err := Count(s)
	if err != nil {
		t.Fatalf("Count(%q): error %v, want none", s, err)
	}
	if got != want {
		t.Fatalf("Count(%q) = %d, want %d", s, got, want)
	}
}

func compareWithDefinition(t *testing.T, s string) {
	t.Helper()
	compareOrder(t, s, orderByDefinition(s))
	compareAlike(t, s, alikeByDefinition(s))
	compareCount(t, s, countByDefinition(s))
}

func TestWrittenOut(t *testing.T) {
	for _, c := range []struct {
		s     string
		order []int
		alike []int
		count int
	}{
		{"", nil, nil, 0},
		{"a", []int{0}, nil, 1}, // a single byte
		{"\x00", []int{0}, nil, 1},
		{"\xff", []int{0}, nil, 1},
		{"aa", []int{1, 0}, []int{1}, 2}, // one byte repeated
		{"aaaaa", []int{4, 3, 2, 1, 0}, []int{1, 2, 3, 4}, 5},
		{"ba", []int{1, 0}, []int{0}, 3}, // bytes that fall
		{"dcba", []int{3, 2, 1, 0}, []int{0, 0, 0}, 10},
		{"ab", []int{0, 1}, []int{0}, 3}, // bytes that rise
		{"abcd", []int{0, 1, 2, 3}, []int{0, 0, 0}, 10},
		{"aab", []int{0, 1, 2}, []int{1, 0}, 5},
		{"badc", []int{1, 0, 3, 2}, []int{0, 0, 0}, 10}, // bytes that all differ
		{"aba", []int{2, 0, 1}, []int{1, 0}, 5},         // a suffix that is a prefix of another one
		{"baa", []int{2, 1, 0}, []int{1, 0}, 5},
		{"banana", []int{5, 3, 1, 0, 4, 2}, []int{1, 3, 0, 0, 2}, 15},
		{"abab", []int{2, 0, 3, 1}, []int{2, 0, 1}, 7}, // repetitions
		{"ababab", []int{4, 2, 0, 5, 3, 1}, []int{2, 4, 0, 1, 3}, 11},
		{"abcabcabc", []int{6, 3, 0, 7, 4, 1, 8, 5, 2}, []int{3, 6, 0, 2, 5, 0, 1, 4}, 24},
		{"abcabd", []int{0, 3, 1, 4, 2, 5}, []int{2, 0, 1, 0, 0}, 18}, // suffixes that share a beginning
		{"abcdabce", []int{0, 4, 1, 5, 2, 6, 3, 7}, []int{3, 0, 2, 0, 1, 0, 0}, 30},
		{"aabaaab", []int{3, 4, 0, 5, 1, 6, 2}, []int{2, 3, 1, 2, 0, 1}, 19},
		{"aaabaaa", []int{6, 5, 4, 0, 1, 2, 3}, []int{1, 2, 3, 2, 1, 0}, 19},
		{"ababa", []int{4, 2, 0, 3, 1}, []int{1, 3, 0, 2}, 9}, // a substring that overlaps itself
		{"abaababaabaab", []int{10, 7, 2, 11, 8, 5, 0, 3, 12, 9, 6, 1, 4}, []int{3, 4, 1, 2, 5, 6, 3, 0, 1, 4, 5, 2}, 55},
		{"mississippi", []int{10, 7, 4, 1, 0, 9, 8, 6, 3, 5, 2}, []int{1, 1, 4, 0, 0, 1, 0, 2, 1, 3}, 53},
		{"ippississim", []int{9, 0, 6, 3, 10, 2, 1, 8, 5, 7, 4}, []int{1, 1, 4, 0, 0, 1, 0, 2, 1, 3}, 53}, // its reversal
		{"abracadabra", []int{10, 7, 0, 3, 5, 8, 1, 4, 6, 9, 2}, []int{1, 4, 1, 1, 0, 3, 0, 0, 0, 2}, 54},
		{"aBAb", []int{2, 1, 0, 3}, []int{0, 0, 0}, 10}, // by the numbers of the bytes
		{"a b", []int{1, 0, 2}, []int{0, 0}, 6},
		{"zab\x00", []int{3, 1, 2, 0}, []int{0, 0, 0}, 10}, // a zero byte is a byte like others
		{"\x7f\x80", []int{0, 1}, []int{0}, 3},             // bytes that are not ASCII
		{"\x80\x7f", []int{1, 0}, []int{0}, 3},
		{"\x00\xff\x00", []int{2, 0, 1}, []int{1, 0}, 5},
		{"\xff\xfe\xff\xfe", []int{3, 1, 2, 0}, []int{1, 0, 2}, 7}, // two invalid bytes are not equal
		{"é", []int{1, 0}, []int{0}, 3},                            // of bytes, not of runes
		{"éé", []int{3, 1, 2, 0}, []int{1, 0, 2}, 7},
		{"éè", []int{3, 1, 2, 0}, []int{0, 0, 1}, 9}, // the two letters have their first byte in common
		{"aéa", []int{3, 0, 2, 1}, []int{1, 0, 0}, 9},
	} {
		compareOrder(t, c.s, c.order)
		compareAlike(t, c.s, c.alike)
		compareCount(t, c.s, c.count)
	}
}

func TestMaxLenWrittenOut(t *testing.T) {
	const n = api.MaxLen
	rising := "abcdefghijklmnopqrstuvwx"
	for _, c := range []struct {
		s     string
		order []int
		alike []int
		count int
	}{
		{rising, sample.Sequence(0, 1, n), make([]int, n-1), n * (n + 1) / 2},
		{sample.Reversed(rising), sample.Sequence(n-1, -1, n), make([]int, n-1), n * (n + 1) / 2},
		{strings.Repeat("a", n), sample.Sequence(n-1, -1, n), sample.Sequence(1, 1, n-1), n},
		{strings.Repeat("a", n-1) + "b", sample.Sequence(0, 1, n), sample.Sequence(n-2, -1, n-1), 2*n - 1},
		{"b" + strings.Repeat("a", n-1), sample.Sequence(n-1, -1, n), append(sample.Sequence(1, 1, n-2), 0), 2*n - 1},
		{
			strings.Repeat("ab", n/2),
			slices.Concat(sample.Sequence(n-2, -2, n/2), sample.Sequence(n-1, -2, n/2)),
			slices.Concat(sample.Sequence(2, 2, n/2-1), []int{0}, sample.Sequence(1, 2, n/2-1)),
			2*n - 1,
		},
	} {
		compareOrder(t, c.s, c.order)
		compareAlike(t, c.s, c.alike)
		compareCount(t, c.s, c.count)
	}
}

func TestAllShortStrings(t *testing.T) {
	for _, s := range slices.Concat(sample.Strings("ab", 12), sample.Strings("\x00z\xff", 7), sample.Strings("abcd", 5)) {
		compareWithDefinition(t, s)
	}
}

func TestStringsOfMaxLen(t *testing.T) {
	for _, s := range sample.Strings("ab", 8)[1:] {
		long := strings.Repeat(s, api.MaxLen)
		compareWithDefinition(t, long[:api.MaxLen])
		compareWithDefinition(t, long[:api.MaxLen-1])
		compareWithDefinition(t, long[:api.MaxLen-1]+"c")
		compareWithDefinition(t, "c"+long[:api.MaxLen-1])
		compareWithDefinition(t, long[:api.MaxLen-1]+"\x00")
		compareWithDefinition(t, "\x00"+long[:api.MaxLen-1])
		compareWithDefinition(t, long[:api.MaxLen/2]+"\xff"+long[:api.MaxLen/2-1])
	}
}

// The substrings of the reversal are the reversals of the substrings.
func TestCountOfReversal(t *testing.T) {
	for _, s := range sample.Strings("abc", 8) {
		want, err := Count(s)
		if err != nil {
			t.Fatalf("Count(%q): error %v, want none", s, err)
		}
		compareCount(t, sample.Reversed(s), want)
	}
}

func TestTooLong(t *testing.T) {
	for _, s := range []string{
		strings.Repeat("a", api.MaxLen+1),
		"abcdefghijklmnopqrstuvwxy",
		strings.Repeat("ab", api.MaxLen),
		strings.Repeat("é", api.MaxLen/2+1), // fewer runes than MaxLen, but more bytes
		strings.Repeat("\x00", 100_000),
	} {
		for name, f := range map[string]func(string) ([]int, error){"Order": Order, "Alike": Alike} {
			got, err := f(s)
			if !errors.Is(err, api.ErrFull) || len(got) != 0 {
				t.Errorf("%s of %d bytes = %v, %v, want none, ErrFull", name, len(s), got, err)
			}
		}
		count, err := Count(s)
		if !errors.Is(err, api.ErrFull) || count != 0 {
			t.Errorf("Count of %d bytes = %d, %v, want 0, ErrFull", len(s), count, err)
		}
	}
}

func TestNeighboursStop(t *testing.T) {
	var got []string
	for a, b := range neighbours([]string{"a", "b", "c", "d"}) {
		got = append(got, a+b)
		if b == "c" {
			break
		}
	}
	if want := []string{"ab", "bc"}; !slices.Equal(got, want) {
		t.Errorf("neighbours yields %q, want %q", got, want)
	}
}

func TestResultsAreNewMemory(t *testing.T) {
	for name, f := range map[string]func(string) ([]int, error){"Order": Order, "Alike": Alike} {
		first, _ := f("banana")
		want := slices.Clone(first)
		second, _ := f("banana")
		clear(first[:cap(first)])
		third, _ := f("banana")
		if !slices.Equal(second, want) || !slices.Equal(third, want) {
			t.Errorf("%s: %v and %v after a change of another result, want %v", name, second, third, want)
		}
	}
	compareCount(t, "banana", 15)
}
