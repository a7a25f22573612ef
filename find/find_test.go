package find

import (
	"errors"
	"slices"
	"strings"
	"testing"

	"letterbeck/api"
	"letterbeck/internal/sample"
)

// allByDefinition tests at every position whether the text from there on begins with the word.
func allByDefinition(text, word string) []int {
	var positions []int
	for i := range len(text) {
		if strings.HasPrefix(text[i:], word) {
			positions = append(positions, i)
		}
	}
	return positions
}

// apartByDefinition goes on behind each occurrence that it counts.
func apartByDefinition(text, word string) int {
	count := 0
	for i := 0; i < len(text); {
		if strings.HasPrefix(text[i:], word) {
			count++
			i += len(word)
		} else {
			i++
		}
	}
	return count
}

func compareAll(t *testing.T, text, word string, want []int) {
	t.Helper()
	got, err := All(text, word)
	if err != nil {
		t.Fatalf("All(%q, %q): error %v, want none", text, word, err)
	}
	if !slices.Equal(got, want) {
		t.Fatalf("All(%q, %q) = %v, want %v", text, word, got, want)
	}
}

func compareApart(t *testing.T, text, word string, want int) {
	t.Helper()
	got, err := Apart(text, word)
	if err != nil {
		t.Fatalf("Apart(%q, %q): error %v, want none", text, word, err)
	}
	if got != want {
		t.Fatalf("Apart(%q, %q) = %d, want %d", text, word, got, want)
	}
}

func numbers(from, to int) []int {
	var l []int
	for i := from; i <= to; i++ {
		l = append(l, i)
	}
	return l
}

func TestWrittenOut(t *testing.T) {
	longest := strings.Repeat("a", api.MaxLen)
	for _, c := range []struct {
		text, word string
		all        []int
		apart      int
	}{
		{"", "a", nil, 0},
		{"a", "a", []int{0}, 1},
		{"a", "b", nil, 0},
		{"a", "aa", nil, 0}, // the word is longer than the text
		{"aaa", "aa", []int{0, 1}, 1},
		{"aaaa", "aa", []int{0, 1, 2}, 2},
		{"aaaaa", "aa", []int{0, 1, 2, 3}, 2},
		{"abc", "d", nil, 0},
		{"abcabc", "bc", []int{1, 4}, 2},
		{"abababa", "aba", []int{0, 2, 4}, 2}, // the third one begins behind the first one
		{"ababababa", "ababa", []int{0, 2, 4}, 1},
		{"abaaba", "aba", []int{0, 3}, 2}, // the second one begins where the first one ends
		{"aabaaabaaaab", "aaab", []int{3, 8}, 2},
		{"abcabcabd", "abcabd", []int{3}, 1},
		{"ab", "ab", []int{0}, 1},
		{"aB", "ab", nil, 0},
		{"\x00\x00\xff\x00\x00", "\x00\x00", []int{0, 3}, 2},
		{"aéé", "é", []int{1, 3}, 2}, // positions count bytes
		{"éè", "\xc3", []int{0, 2}, 2},
		{longest, "a", numbers(0, api.MaxLen-1), api.MaxLen},
		{longest, "aa", numbers(0, api.MaxLen-2), api.MaxLen / 2},
		{longest, longest, []int{0}, 1},
		{"a", longest, nil, 0},
		{"", longest, nil, 0},
		{longest[1:] + "b", "aab", []int{api.MaxLen - 3}, 1},
	} {
		compareAll(t, c.text, c.word, c.all)
		compareApart(t, c.text, c.word, c.apart)
		if err := Check(c.text, c.word); err != nil {
			t.Errorf("Check(%q, %q): error %v, want none", c.text, c.word, err)
		}
	}
}

func compareWithDefinition(t *testing.T, text, word string) {
	t.Helper()
	compareAll(t, text, word, allByDefinition(text, word))
	compareApart(t, text, word, apartByDefinition(text, word))
}

func TestAllShortStrings(t *testing.T) {
	for text, word := range sample.Pairs(sample.Strings("ab", 10), sample.Strings("ab", 6)[1:]) {
		compareWithDefinition(t, text, word)
	}
	bytes := "\x00z\xff"
	for text, word := range sample.Pairs(sample.Strings(bytes, 6), sample.Strings(bytes, 4)[1:]) {
		compareWithDefinition(t, text, word)
	}
}

func TestTextsOfMaxLen(t *testing.T) {
	for s, word := range sample.Pairs(sample.Strings("ab", 5)[1:], sample.Strings("ab", 7)[1:]) {
		text := strings.Repeat(s, api.MaxLen)
		compareWithDefinition(t, text[:api.MaxLen], word)
		compareWithDefinition(t, text[:api.MaxLen-1]+"b", word)
	}
}

// Long words with many borders, in texts that leave them late.
func TestLongWords(t *testing.T) {
	short := sample.Strings("ab", 4)[1:]
	for s, u := range sample.Pairs(short, short) {
		text := (strings.Repeat(s, 4) + u + strings.Repeat(s, api.MaxLen))[:api.MaxLen]
		for n := 8; n <= api.MaxLen; n++ {
			compareWithDefinition(t, text, strings.Repeat(s, n)[:n])
			compareWithDefinition(t, text, text[api.MaxLen-n:])
		}
	}
}

func TestErrors(t *testing.T) {
	longest := strings.Repeat("a", api.MaxLen)
	tooLong := longest + "a"
	fewRunes := strings.Repeat("é", api.MaxLen/2+1) // fewer runes than MaxLen, but more bytes
	for _, c := range []struct {
		text, word string
		want       error
	}{
		{tooLong, "a", api.ErrFull},
		{"a", tooLong, api.ErrFull},
		{"", tooLong, api.ErrFull},
		{tooLong, tooLong, api.ErrFull},
		{fewRunes, "é", api.ErrFull},
		{"é", fewRunes, api.ErrFull},
		{strings.Repeat("\x00", 100_000), "\x00", api.ErrFull},
		{"\x00", strings.Repeat("\x00", 100_000), api.ErrFull},
		{tooLong, "", api.ErrFull}, // the length is checked before the empty word
		{longest, "", api.ErrNone},
		{"a", "", api.ErrNone},
		{"", "", api.ErrNone},
	} {
		if err := Check(c.text, c.word); !errors.Is(err, c.want) {
			t.Errorf("Check(%q, %q): error %v, want %v", c.text, c.word, err, c.want)
		}
		positions, err := All(c.text, c.word)
		if !errors.Is(err, c.want) || len(positions) != 0 {
			t.Errorf("All(%q, %q) = %v, %v, want no positions, %v", c.text, c.word, positions, err, c.want)
		}
		count, err := Apart(c.text, c.word)
		if !errors.Is(err, c.want) || count != 0 {
			t.Errorf("Apart(%q, %q) = %d, %v, want 0, %v", c.text, c.word, count, err, c.want)
		}
	}
}

func TestResultsAreNewMemory(t *testing.T) {
	want := []int{0, 2, 4}
	first, _ := All("abababa", "aba")
	second, _ := All("abababa", "aba")
	for i := range first {
		first[i] = -1
	}
	third, _ := All("abababa", "aba")
	if !slices.Equal(second, want) || !slices.Equal(third, want) {
		t.Errorf("%v and %v after a change of another result, want %v", second, third, want)
	}
}
