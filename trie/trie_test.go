package trie

import (
	"errors"
	"slices"
	"strings"
	"testing"

	"letterbeck/api"
	"letterbeck/internal/sample"
)

// checkByDefinition returns the error that the words must have, or nil.
func checkByDefinition(words []string) error {
	if len(words) > api.MaxWords {
		return api.ErrFull
	}
	for i, word := range words {
		switch {
		case len(word) > api.MaxWord:
			return api.ErrFull
		case len(word) == 0:
			return api.ErrNone
		case slices.Index(words, word) < i:
			return api.ErrClash
		}
	}
	return nil
}

// sizeByDefinition lists the prefixes of all the words and drops the repeated ones.
func sizeByDefinition(words []string) int {
	prefixes := []string{""}
	for _, word := range words {
		for n := range len(word) {
			prefixes = append(prefixes, word[:n+1])
		}
	}
	slices.Sort(prefixes)
	return len(slices.Compact(prefixes))
}

// longestByDefinition tests for each word whether the text begins with it.
func longestByDefinition(words []string, text string) int {
	longest := -1
	for i, word := range words {
		if strings.HasPrefix(text, word) && (longest < 0 || len(word) > len(words[longest])) {
			longest = i
		}
	}
	return longest
}

// orderByDefinition puts each word at the place that the number of smaller words tells.
func orderByDefinition(words []string) []int {
	indexes := make([]int, len(words))
	for i, word := range words {
		place := 0
		for _, other := range words {
			if other < word {
				place++
			}
		}
		indexes[place] = i
	}
	return indexes
}

func compareSize(t *testing.T, words []string, want int) {
	t.Helper()
	got, err := Size(words)
	if err != nil {
		t.Fatalf("Size(%q): error %v, want none", words, err)
	}
	if got != want {
		t.Fatalf("Size(%q) = %d, want %d", words, got, want)
	}
}

func compareLongest(t *testing.T, words []string, text string, want int) {
	t.Helper()
	got, err := Longest(words, text)
	if err != nil {
		t.Fatalf("Longest(%q, %q): error %v, want none", words, text, err)
	}
	if got != want {
		t.Fatalf("Longest(%q, %q) = %d, want %d", words, text, got, want)
	}
}

func compareOrder(t *testing.T, words []string, want []int) {
	t.Helper()
	got, err := Order(words)
	if err != nil {
		t.Fatalf("Order(%q): error %v, want none", words, err)
	}
	if !slices.Equal(got, want) {
		t.Fatalf("Order(%q) = %v, want %v", words, got, want)
	}
}

// compareErrors calls all functions, with a text of which nothing is wrong.
func compareErrors(t *testing.T, words []string, want error) {
	t.Helper()
	if err := Check(words); !errors.Is(err, want) {
		t.Fatalf("Check(%q): error %v, want %v", words, err, want)
	}
	if size, err := Size(words); !errors.Is(err, want) || size != 0 {
		t.Fatalf("Size(%q) = %d, %v, want 0, %v", words, size, err, want)
	}
	if longest, err := Longest(words, "a"); !errors.Is(err, want) || longest != 0 {
		t.Fatalf("Longest(%q, \"a\") = %d, %v, want 0, %v", words, longest, err, want)
	}
	if indexes, err := Order(words); !errors.Is(err, want) || len(indexes) != 0 {
		t.Fatalf("Order(%q) = %v, %v, want no indexes, %v", words, indexes, err, want)
	}
}

func TestSizeAndOrderWrittenOut(t *testing.T) {
	for _, c := range []struct {
		words []string
		size  int
		order []int
	}{
		{nil, 1, nil}, // the empty prefix alone
		{[]string{}, 1, nil},
		{[]string{"a"}, 2, []int{0}},
		{[]string{"abc"}, 4, []int{0}},
		{[]string{"aaa"}, 4, []int{0}},
		{[]string{"ab", "ac"}, 4, []int{0, 1}},
		{[]string{"ac", "ab"}, 4, []int{1, 0}},
		{[]string{"b", "a"}, 3, []int{1, 0}},
		{[]string{"a", "ab", "abc"}, 4, []int{0, 1, 2}}, // prefixes of other words
		{[]string{"abc", "ab", "a"}, 4, []int{2, 1, 0}},
		{[]string{"abc", "a", "ab"}, 4, []int{1, 2, 0}},
		{[]string{"c", "a", "b"}, 4, []int{1, 2, 0}}, // indexes of words, not places of indexes
		{[]string{"b", "ab"}, 4, []int{1, 0}},        // a longer word before a shorter one
		{[]string{"ab", "b"}, 4, []int{0, 1}},
		{[]string{"ba", "ab", "aa", "bb"}, 7, []int{2, 1, 0, 3}},
		{[]string{"a", "B", "b", "A"}, 5, []int{3, 1, 0, 2}},
		{[]string{"\xff", "a", "\x00", "\x80", "\x7f"}, 6, []int{2, 1, 4, 3, 0}},
		{[]string{"a\x00", "a"}, 3, []int{1, 0}},
		{[]string{"é", "è", "z"}, 5, []int{2, 1, 0}}, // prefixes count bytes
		{[]string{"\xc3", "é"}, 3, []int{0, 1}},
		{[]string{"aaaaaaaa", "baaaaaaa", "aaaaaaab"}, 18, []int{0, 2, 1}}, // words of MaxWord bytes
		{[]string{"fffffff0", "eeeeeeee", "dddddddd", "cccccccc", "bbbbbbbb", "ffffffff"}, 42, []int{4, 3, 2, 1, 0, 5}},
	} {
		if err := Check(c.words); err != nil {
			t.Errorf("Check(%q): error %v, want none", c.words, err)
		}
		compareSize(t, c.words, c.size)
		compareOrder(t, c.words, c.order)
	}
}

func TestLongestWrittenOut(t *testing.T) {
	longText := strings.Repeat("a", api.MaxLen)
	for _, c := range []struct {
		words []string
		text  string
		want  int
	}{
		{nil, "", -1},
		{nil, "a", -1},
		{nil, longText, -1},
		{[]string{"a"}, "", -1},
		{[]string{"a"}, "a", 0},
		{[]string{"b"}, "a", -1},
		{[]string{"b"}, "ab", -1}, // within the text, but not at its beginning
		{[]string{"a", "ab"}, "abc", 1},
		{[]string{"ab", "a"}, "abc", 0},
		{[]string{"ab", "a"}, "acb", 1},
		{[]string{"a", "ab", "abc"}, "ab", 1}, // the text is as long as a word
		{[]string{"abc", "ab"}, "a", -1},      // shorter than the words
		{[]string{"abc", "abcd"}, "ab", -1},
		{[]string{"abcd", "a"}, "abc", 1}, // leaves the longer word at the end of the text
		{[]string{"abcd", "a"}, "abcx", 1},
		{[]string{"abab", "ab"}, "abababab", 0},
		{[]string{"a", "aaa"}, "aab", 0}, // aa is a prefix, but not a word
		{[]string{"A"}, "a", -1},
		{[]string{"\x00", "\x00\xff"}, "\x00\xff\x00", 1},
		{[]string{"\xc3", "é"}, "è", 0},
		{[]string{"aaaaaaaa", "aaaaaaa"}, longText, 0},
		{[]string{"aaaaaaab", "aaaaaaa"}, longText, 1},
		{[]string{"b", "bb", "c", "aa", "ab", "a"}, longText, 3},
		{[]string{"b", "bb", "c", "aa", "ab", "a"}, "ac", 5},
	} {
		compareLongest(t, c.words, c.text, c.want)
	}
}

func compareWithDefinition(t *testing.T, words, texts []string) {
	t.Helper()
	if want := checkByDefinition(words); want != nil {
		compareErrors(t, words, want)
		return
	}
	if err := Check(words); err != nil {
		t.Fatalf("Check(%q): error %v, want none", words, err)
	}
	compareSize(t, words, sizeByDefinition(words))
	compareOrder(t, words, orderByDefinition(words))
	for _, text := range texts {
		compareLongest(t, words, text, longestByDefinition(words, text))
	}
}

func TestAllShortWords(t *testing.T) {
	texts := sample.Strings("ab", 5)
	for _, words := range sample.Lists(sample.Strings("ab", 3)[1:], 3) {
		compareWithDefinition(t, words, texts)
	}
	bytes := "\x00\x7f\x80\xff"
	texts = sample.Strings(bytes, 3)
	for _, words := range sample.Lists(sample.Strings(bytes, 2)[1:], 2) {
		compareWithDefinition(t, words, texts)
	}
}

// All orders of up to MaxWords words.
func TestManyShortWords(t *testing.T) {
	texts := sample.Strings("ab", 3)
	for _, words := range sample.Lists(sample.Strings("ab", 2)[1:], api.MaxWords) {
		compareWithDefinition(t, words, texts)
	}
}

// Words of up to MaxWord bytes that a text of MaxLen bytes leaves late.
func TestLongWords(t *testing.T) {
	short := sample.Strings("ab", 4)[1:]
	for s, u := range sample.Pairs(short, short) {
		text := strings.Repeat(s, api.MaxLen)[:api.MaxLen]
		long := strings.Repeat(u, api.MaxWord)[:api.MaxWord]
		words := []string{
			long,
			text[:api.MaxWord-1],
			text[:api.MaxWord-len(u)] + u,
			long[:api.MaxWord/2] + "c",
			text[:api.MaxWord-2] + "c",
		}
		compareWithDefinition(t, words, []string{text, long, long + text[:api.MaxLen-api.MaxWord]})
	}
}

func TestErrorsWrittenOut(t *testing.T) {
	longest := strings.Repeat("a", api.MaxWord)
	tooLong := longest + "a"
	six := []string{"a", "b", "c", "d", "e", "f"}
	for _, c := range []struct {
		words []string
		want  error
	}{
		{append(slices.Clone(six), "g"), api.ErrFull},
		{make([]string, api.MaxWords+1), api.ErrFull}, // the number before the empty words
		{slices.Repeat([]string{"a"}, api.MaxWords+1), api.ErrFull},
		{append(make([]string, api.MaxWords), tooLong), api.ErrFull},
		{slices.Repeat([]string{"a"}, 100_000), api.ErrFull},
		{make([]string, api.MaxWords), api.ErrNone},
		{slices.Repeat([]string{"a"}, api.MaxWords), api.ErrClash},
		{[]string{tooLong}, api.ErrFull},
		{[]string{strings.Repeat("\x00", 100_000)}, api.ErrFull},
		{[]string{strings.Repeat("é", api.MaxWord/2+1)}, api.ErrFull}, // fewer runes than MaxWord, but more bytes
		{[]string{longest, tooLong}, api.ErrFull},
		{[]string{tooLong, tooLong}, api.ErrFull}, // the length before the repetition
		{[]string{""}, api.ErrNone},
		{[]string{"a", ""}, api.ErrNone},
		{[]string{"", ""}, api.ErrNone},
		{[]string{"a", "a"}, api.ErrClash},
		{[]string{"a", "b", "a"}, api.ErrClash},
		{[]string{"a", "b", "ab", "b"}, api.ErrClash},
		{[]string{longest, longest}, api.ErrClash},
		{[]string{"a", "b", "c", "d", "e", "a"}, api.ErrClash},
		// The first word with an error decides.
		{[]string{"", tooLong}, api.ErrNone},
		{[]string{tooLong, ""}, api.ErrFull},
		{[]string{"a", "a", tooLong}, api.ErrClash},
		{[]string{"a", tooLong, "a"}, api.ErrFull},
		{[]string{"a", "a", ""}, api.ErrClash},
		{[]string{"a", "", "a"}, api.ErrNone},
	} {
		compareErrors(t, c.words, c.want)
	}
	if err := Check(six); err != nil {
		t.Errorf("Check(%q): error %v, want none", six, err)
	}
}

// All lists of up to MaxWords+1 words of which some have errors.
func TestOrderOfErrors(t *testing.T) {
	tooLong := strings.Repeat("a", api.MaxWord+1)
	for _, words := range sample.Lists([]string{"a", "", tooLong, "b"}, api.MaxWords+1) {
		compareWithDefinition(t, words, nil)
	}
}

func TestLongestErrors(t *testing.T) {
	tooLong := strings.Repeat("a", api.MaxLen+1)
	fewRunes := strings.Repeat("é", api.MaxLen/2+1) // fewer runes than MaxLen, but more bytes
	for _, c := range []struct {
		words []string
		text  string
		want  error
	}{
		{nil, tooLong, api.ErrFull},
		{[]string{"a"}, tooLong, api.ErrFull},
		{[]string{"b"}, tooLong, api.ErrFull},
		{[]string{"é"}, fewRunes, api.ErrFull},
		{[]string{"a"}, strings.Repeat("\x00", 100_000), api.ErrFull},
		// The words before the text.
		{[]string{""}, tooLong, api.ErrNone},
		{[]string{"a", "a"}, tooLong, api.ErrClash},
		{[]string{tooLong}, tooLong, api.ErrFull},
		{make([]string, api.MaxWords+1), tooLong, api.ErrFull},
		{[]string{""}, "", api.ErrNone},
		{[]string{"b", "b"}, "a", api.ErrClash},
	} {
		got, err := Longest(c.words, c.text)
		if !errors.Is(err, c.want) || got != 0 {
			t.Errorf("Longest(%q, %q) = %d, %v, want 0, %v", c.words, c.text, got, err, c.want)
		}
	}
}

func TestArgumentsStayAsTheyAre(t *testing.T) {
	all := []string{"b", "ab", "a", "beyond", "the end"}
	kept := slices.Clone(all)
	words := all[:3]
	compareSize(t, words, 4)
	compareLongest(t, words, "abc", 1)
	compareOrder(t, words, []int{2, 1, 0})
	compareErrors(t, append(words[:2:2], "b"), api.ErrClash)
	if !slices.Equal(all, kept) {
		t.Errorf("the words have become %q, want %q", all, kept)
	}
}

func TestResultsAreNewMemory(t *testing.T) {
	words := []string{"b", "ab", "a"}
	want := []int{2, 1, 0}
	first, err := Order(words)
	if err != nil {
		t.Fatalf("Order(%q): error %v, want none", words, err)
	}
	clear(first)
	compareOrder(t, words, want)
}
