package skip

import (
	"errors"
	"slices"
	"strings"
	"testing"

	"letterbeck/api"
	"letterbeck/find"
	"letterbeck/internal/sample"
)

// leapByDefinition tries the distances from the last position of the word upwards.
func leapByDefinition(word string, c byte) int {
	for distance := 1; distance < len(word); distance++ {
		if word[len(word)-1-distance] == c {
			return distance
		}
	}
	return len(word)
}

// firstByDefinition tests the word at every position of the text, and counts those
// that the shifts lead to.
func firstByDefinition(text, word string) (at, times int) {
	next := 0
	for i := 0; i+len(word) <= len(text); i++ {
		if i == next {
			times++
			next += leapByDefinition(word, text[i+len(word)-1])
		}
		if strings.HasPrefix(text[i:], word) {
			return i, times
		}
	}
	return -1, times
}

func compareLeap(t *testing.T, word string, c byte, want int) {
	t.Helper()
	got, err := Leap(word, c)
	if err != nil {
		t.Fatalf("Leap(%q, %q): error %v, want none", word, c, err)
	}
	if got != want {
		t.Fatalf("Leap(%q, %q) = %d, want %d", word, c, got, want)
	}
}

func compareFirst(t *testing.T, text, word string, wantAt, wantTimes int) {
	t.Helper()
	at, times, err := First(text, word)
	if err != nil {
		t.Fatalf("First(%q, %q): error %v, want none", text, word, err)
	}
	if at != wantAt || times != wantTimes {
		t.Fatalf("First(%q, %q) = %d, %d, want %d, %d", text, word, at, times, wantAt, wantTimes)
	}
}

func TestLeapWrittenOut(t *testing.T) {
	longest := strings.Repeat("a", api.MaxLen)
	for _, c := range []struct {
		word string
		c    byte
		want int
	}{
		{"abc", 'a', 2},
		{"abc", 'b', 1},
		{"abc", 'c', 3}, // only at the last position
		{"abc", 'z', 3}, // nowhere
		{"abc", 'A', 3},
		{"a", 'a', 1},
		{"a", 'b', 1},
		{"aa", 'a', 1},
		{"abab", 'a', 1}, // the last of two occurrences
		{"abab", 'b', 2}, // the last one before the last position
		{"abbb", 'a', 3},
		{"aabc", 'a', 2},
		{"\x00\xff\x80", 0, 2},
		{"\x00\xff\x80", 0xff, 1},
		{"\x00\xff\x80", 0x80, 3},
		{"éa", 0xc3, 2}, // distances count bytes
		{"éa", 'a', 3},
		{longest, 'a', 1},
		{longest, 'b', api.MaxLen},
		{"b" + longest[1:], 'b', api.MaxLen - 1},
		{longest[1:] + "b", 'b', api.MaxLen},
	} {
		compareLeap(t, c.word, c.c, c.want)
	}
}

func TestFirstWrittenOut(t *testing.T) {
	longest := strings.Repeat("a", api.MaxLen)
	for _, c := range []struct {
		text, word string
		at, times  int
	}{
		{"", "a", -1, 0},
		{"a", "ab", -1, 0}, // the word is longer than the text
		{"", longest, -1, 0},
		{longest[1:], longest, -1, 0},
		{"a", "a", 0, 1},
		{"b", "a", -1, 1},
		{"bbb", "a", -1, 3}, // a word of one byte is shifted by one
		{"ab", "ab", 0, 1},
		{"xxab", "ab", 2, 2},
		{"aaab", "ab", 2, 3},
		{"abab", "ab", 0, 1}, // the first of two occurrences
		{"xabab", "ab", 1, 2},
		{"xxxxxxabc", "abc", 6, 3}, // a byte that is not in the word
		{"xxcxxcabc", "abc", 6, 3}, // a byte that is only at the last position
		{"xxxxxxab", "abc", -1, 2}, // ends beyond the text
		{"xxaxx", "abc", -1, 2},
		{"ababababb", "bb", 7, 5},
		{"abcabcabd", "abcabd", 3, 2},
		{"aabaabaab", "bab", -1, 5}, // at 0, 2, 3, 5 and 6
		{"aB", "ab", -1, 1},
		{"\x00\x00\xff\x00", "\xff\x00", 2, 2},
		{"aéé", "é", 1, 2}, // positions count bytes
		{longest, "a", 0, 1},
		{longest, longest, 0, 1},
		{longest, "b", -1, api.MaxLen},
		{longest, "ba", -1, api.MaxLen / 2},
		{longest, "ab", -1, api.MaxLen - 1},
		{longest[1:] + "b", "ab", api.MaxLen - 2, api.MaxLen - 1},
		{longest[1:] + "b", longest, -1, 1},
	} {
		compareFirst(t, c.text, c.word, c.at, c.times)
	}
}

func compareLeapWithDefinition(t *testing.T, word string) {
	t.Helper()
	for c := range 256 {
		compareLeap(t, word, byte(c), leapByDefinition(word, byte(c)))
	}
}

func compareFirstWithDefinition(t *testing.T, text, word string) {
	t.Helper()
	at, times := firstByDefinition(text, word)
	compareFirst(t, text, word, at, times)
}

func TestLeapOfShortWords(t *testing.T) {
	words := slices.Concat(sample.Strings("ab", 8)[1:], sample.Strings("\x00z\xff", 5)[1:])
	for _, word := range words {
		compareLeapWithDefinition(t, word)
	}
}

func TestLeapOfWordsOfMaxLen(t *testing.T) {
	bytes := "abcdefghijklmnopqrstuvwxyz"
	for i := range len(bytes) {
		word := (bytes[i:] + bytes[:i])[:api.MaxLen]
		compareLeapWithDefinition(t, word)
	}
}

func TestFirstInShortTexts(t *testing.T) {
	for text, word := range sample.Pairs(sample.Strings("ab", 10), sample.Strings("ab", 6)[1:]) {
		compareFirstWithDefinition(t, text, word)
	}
	bytes := "\x00z\xff"
	for text, word := range sample.Pairs(sample.Strings(bytes, 7), sample.Strings(bytes, 4)[1:]) {
		compareFirstWithDefinition(t, text, word)
	}
}

func TestFirstInTextsOfMaxLen(t *testing.T) {
	short := sample.Strings("abc", 4)[1:]
	for s, word := range sample.Pairs(short, short) {
		text := strings.Repeat(s, api.MaxLen)
		compareFirstWithDefinition(t, text[:api.MaxLen], word)
		compareFirstWithDefinition(t, text[:api.MaxLen-len(word)]+word, word)
		compareFirstWithDefinition(t, text[:api.MaxLen-1]+"c", text[:8]+word)
	}
}

// The shifts pass over no occurrence.
func TestFirstIsTheFirstOfAll(t *testing.T) {
	for text, word := range sample.Pairs(sample.Strings("ab", 9), sample.Strings("ab", 5)[1:]) {
		at, _, err := First(text, word)
		if err != nil {
			t.Fatalf("First(%q, %q): error %v, want none", text, word, err)
		}
		all, err := find.All(text, word)
		if err != nil {
			t.Fatalf("find.All(%q, %q): error %v, want none", text, word, err)
		}
		want := -1
		if len(all) > 0 {
			want = all[0]
		}
		if at != want {
			t.Fatalf("First(%q, %q) is at %d, want %d", text, word, at, want)
		}
	}
}

func TestLeapErrors(t *testing.T) {
	for _, c := range []struct {
		word string
		want error
	}{
		{strings.Repeat("a", api.MaxLen+1), api.ErrFull},
		{strings.Repeat("é", api.MaxLen/2+1), api.ErrFull}, // fewer runes than MaxLen, but more bytes
		{strings.Repeat("\x00", 100_000), api.ErrFull},
		{"", api.ErrNone},
	} {
		for _, b := range []byte{0, 'a', 0xff} {
			got, err := Leap(c.word, b)
			if !errors.Is(err, c.want) || got != 0 {
				t.Errorf("Leap(%q, %q) = %d, %v, want 0, %v", c.word, b, got, err, c.want)
			}
		}
	}
}

func TestFirstErrors(t *testing.T) {
	longest := strings.Repeat("a", api.MaxLen)
	tooLong := longest + "a"
	fewRunes := strings.Repeat("é", api.MaxLen/2+1) // fewer runes than MaxLen, but more bytes
	for _, c := range []struct {
		text, word string
		want       error
	}{
		{tooLong, "a", api.ErrFull},
		{tooLong, "b", api.ErrFull},
		{"a", tooLong, api.ErrFull}, // not only longer than the text
		{"", tooLong, api.ErrFull},
		{tooLong, tooLong, api.ErrFull},
		{fewRunes, "é", api.ErrFull},
		{"é", fewRunes, api.ErrFull},
		{strings.Repeat("\x00", 100_000), "\x00", api.ErrFull},
		{"\x00", strings.Repeat("\x00", 100_000), api.ErrFull},
		{tooLong, "", api.ErrFull}, // the length is checked before the empty word
		{longest, "", api.ErrNone},
		{"a", "", api.ErrNone},
		{"", "", api.ErrNone},
	} {
		at, times, err := First(c.text, c.word)
		if !errors.Is(err, c.want) || at != 0 || times != 0 {
			t.Errorf("First(%q, %q) = %d, %d, %v, want 0, 0, %v", c.text, c.word, at, times, err, c.want)
		}
	}
}
