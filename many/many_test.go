package many

import (
	"errors"
	"slices"
	"strings"
	"testing"

	"letterbeck/api"
	"letterbeck/find"
	"letterbeck/internal/sample"
	"letterbeck/trie"
)

// allByDefinition tests each word at each position.
func allByDefinition(words []string, text string) []api.Hit {
	var hits []api.Hit
	for at := range len(text) {
		for i, word := range words {
			if strings.HasPrefix(text[at:], word) {
				hits = append(hits, api.Hit{At: at, Word: i})
			}
		}
	}
	return hits
}

// cutByDefinition returns the indexes of the words that the text is split into, or false
// if the remaining text begins with no word.
func cutByDefinition(words []string, text string) ([]int, bool) {
	if text == "" {
		return nil, true
	}
	for n := len(text); n > 0; n-- {
		if i := slices.Index(words, text[:n]); i >= 0 {
			rest, ok := cutByDefinition(words, text[n:])
			return append([]int{i}, rest...), ok
		}
	}
	return nil, false
}

// hitsAt turns pairs of a position and a word index into hits.
func hitsAt(pairs [][2]int) []api.Hit {
	var hits []api.Hit
	for _, pair := range pairs {
		hits = append(hits, api.Hit{At: pair[0], Word: pair[1]})
	}
	return hits
}

func compareAll(t *testing.T, words []string, text string, want []api.Hit) {
	t.Helper()
	got, err := All(words, text)
	if err != nil {
		t.Fatalf("All(%q, %q): error %v, want none", words, text, err)
	}
	if !slices.Equal(got, want) {
		t.Fatalf("All(%q, %q) = %v, want %v", words, text, got, want)
	}
}

func compareCut(t *testing.T, words []string, text string, want []int) {
	t.Helper()
	got, err := Cut(words, text)
	if err != nil {
		t.Fatalf("Cut(%q, %q): error %v, want none", words, text, err)
	}
	if !slices.Equal(got, want) {
		t.Fatalf("Cut(%q, %q) = %v, want %v", words, text, got, want)
	}
}

func compareCutError(t *testing.T, words []string, text string, want error) {
	t.Helper()
	if indexes, err := Cut(words, text); !errors.Is(err, want) || len(indexes) != 0 {
		t.Fatalf("Cut(%q, %q) = %v, %v, want no indexes, %v", words, text, indexes, err, want)
	}
}

// compareErrors calls both functions.
func compareErrors(t *testing.T, words []string, text string, want error) {
	t.Helper()
	if hits, err := All(words, text); !errors.Is(err, want) || len(hits) != 0 {
		t.Fatalf("All(%q, %q) = %v, %v, want no hits, %v", words, text, hits, err, want)
	}
	compareCutError(t, words, text, want)
}

func compareWithDefinition(t *testing.T, words, texts []string) {
	t.Helper()
	for _, text := range texts {
		if err := trie.Check(words); err != nil {
			compareErrors(t, words, text, err)
			continue
		}
		compareAll(t, words, text, allByDefinition(words, text))
		if want, ok := cutByDefinition(words, text); ok {
			compareCut(t, words, text, want)
		} else {
			compareCutError(t, words, text, api.ErrNone)
		}
	}
}

func TestAllWrittenOut(t *testing.T) {
	for _, c := range []struct {
		words []string
		text  string
		want  [][2]int
	}{
		{nil, "", nil},
		{nil, "abc", nil},
		{[]string{}, "abc", nil},
		{[]string{"a"}, "", nil},
		{[]string{"a"}, "b", nil},
		{[]string{"a"}, "a", [][2]int{{0, 0}}},
		{[]string{"ab"}, "a", nil}, // longer than the text
		{[]string{"A"}, "a", nil},
		{[]string{"a", "ab"}, "ab", [][2]int{{0, 0}, {0, 1}}}, // several words at one position
		{[]string{"ab", "a"}, "ab", [][2]int{{0, 0}, {0, 1}}},
		{[]string{"aa", "a"}, "aa", [][2]int{{0, 0}, {0, 1}, {1, 1}}},
		{[]string{"a", "aa"}, "aaa", [][2]int{{0, 0}, {0, 1}, {1, 0}, {1, 1}, {2, 0}}},
		{[]string{"c", "abc", "ab", "bc"}, "abc", [][2]int{{0, 1}, {0, 2}, {1, 3}, {2, 0}}}, // by position, not by word or end
		{[]string{"b", "ab"}, "ab", [][2]int{{0, 1}, {1, 0}}},                               // a word within another one
		{[]string{"abcd", "bc"}, "abcd", [][2]int{{0, 0}, {1, 1}}},
		{[]string{"abcd", "bc"}, "abce", [][2]int{{1, 1}}}, // within a prefix that does not become a word
		{[]string{"abcd", "bce"}, "abce", [][2]int{{1, 1}}},
		{[]string{"aab"}, "aaab", [][2]int{{1, 0}}},
		{[]string{"aba", "bab"}, "ababa", [][2]int{{0, 0}, {1, 1}, {2, 0}}}, // words that overlap
		{[]string{"aba"}, "ababa", [][2]int{{0, 0}, {2, 0}}},
		{[]string{"he", "she", "his", "hers"}, "ushers", [][2]int{{1, 1}, {2, 0}, {2, 3}}},
		{[]string{"x", "b"}, "aba", [][2]int{{1, 1}}}, // a word that does not occur
		{[]string{"\x00", "\xff\x00"}, "\x00\xff\x00", [][2]int{{0, 0}, {1, 1}, {2, 0}}},
		{[]string{"\xa9", "é"}, "éé", [][2]int{{0, 1}, {1, 0}, {2, 1}, {3, 0}}}, // positions count bytes
	} {
		compareAll(t, c.words, c.text, hitsAt(c.want))
	}
}

func TestCutWrittenOut(t *testing.T) {
	longText := strings.Repeat("a", api.MaxLen)
	for _, c := range []struct {
		words []string
		text  string
		want  []int
	}{
		{nil, "", nil},
		{[]string{}, "", nil},
		{[]string{"a"}, "", nil},
		{[]string{"a"}, "a", []int{0}},
		{[]string{"a"}, "aaa", []int{0, 0, 0}},
		{[]string{"a", "ab"}, "aba", []int{1, 0}},
		{[]string{"ab", "a"}, "aba", []int{0, 1}}, // prefixes of other words
		{[]string{"a", "aa"}, "aaa", []int{1, 0}}, // the longest word first
		{[]string{"aa", "a"}, "aaa", []int{0, 1}},
		{[]string{"a", "b", "ab"}, "abba", []int{2, 1, 0}},
		{[]string{"a", "ab", "abcd", "c"}, "abc", []int{1, 3}}, // the text ends within the longest word
		{[]string{"x", "ab", "c"}, "cabab", []int{2, 1, 1}},
		{[]string{"\x00", "\xff\x00", "\xff"}, "\xff\xff\x00\x00", []int{2, 1, 0}},
		{[]string{"\xa9", "\xc3"}, "é", []int{1, 0}},
		{[]string{"a", "aaaaaaaa"}, longText, []int{1, 1, 1}},
		{[]string{"a"}, longText, make([]int, api.MaxLen)},
	} {
		compareCut(t, c.words, c.text, c.want)
	}
}

func TestCutEndsInNoWord(t *testing.T) {
	for _, c := range []struct {
		words []string
		text  string
	}{
		{nil, "a"},
		{[]string{"a"}, "b"},
		{[]string{"a"}, "A"},
		{[]string{"b"}, "ab"},
		{[]string{"ab"}, "a"}, // the text begins a word
		{[]string{"a"}, "aab"},
		{[]string{"ab", "a"}, "aabb"},
		// Shorter words would cut the text, but the longest ones do not.
		{[]string{"a", "ab", "bc"}, "abc"},
		{[]string{"aa", "aab", "ba"}, "aaba"},
		{[]string{"aa", "aaa"}, "aaaa"},
		{[]string{"b", "a", "ba", "ac"}, "aabac"},
		{[]string{"aaaaa"}, strings.Repeat("a", api.MaxLen)},
	} {
		compareCutError(t, c.words, c.text, api.ErrNone)
	}
}

// All lists of short words with all short texts.
func TestShortWords(t *testing.T) {
	for _, c := range []struct {
		alphabet          string
		word, words, text int // at most so many bytes of a word, words, and bytes of a text
	}{
		{"ab", 3, 3, 6},
		{"ab", 2, api.MaxWords, 4},
		{"\x00\x7f\x80\xff", 2, 2, 3},
	} {
		texts := sample.Strings(c.alphabet, c.text)
		for _, words := range sample.Lists(sample.Strings(c.alphabet, c.word)[1:], c.words) {
			compareWithDefinition(t, words, texts)
		}
	}
}

// Words of up to MaxWord bytes in texts of MaxLen bytes.
func TestLongWords(t *testing.T) {
	short := sample.Strings("ab", 4)[1:]
	for s, u := range sample.Pairs(short, short) {
		first := strings.Repeat(s, api.MaxLen)
		second := strings.Repeat(u, api.MaxLen)
		words := []string{first[:api.MaxWord-1], second[:api.MaxWord], first[1 : api.MaxWord-1], "b", second[1:4], "a"}
		compareWithDefinition(t, words, []string{
			first[:api.MaxLen],
			second[:api.MaxWord] + first[:api.MaxLen-api.MaxWord],
			first[:api.MaxWord+1] + second[:api.MaxWord] + first[:api.MaxLen-2*api.MaxWord-1],
		})
	}
}

// The occurrences of each word are those that it has alone.
func TestAllAgreesWithFind(t *testing.T) {
	words := []string{"ab", "a", "bab", "aab", "bb", "abba"}
	for _, text := range sample.Strings("ab", 9) {
		hits, err := All(words, text)
		if err != nil {
			t.Fatalf("All(%q, %q): error %v, want none", words, text, err)
		}
		for i, word := range words {
			want, err := find.All(text, word)
			if err != nil {
				t.Fatalf("find.All(%q, %q): error %v, want none", text, word, err)
			}
			var got []int
			for _, hit := range hits {
				if hit.Word == i {
					got = append(got, hit.At)
				}
			}
			if !slices.Equal(got, want) {
				t.Fatalf("All(%q, %q) has word %d at %v, want %v", words, text, i, got, want)
			}
		}
	}
}

func TestErrorsWrittenOut(t *testing.T) {
	longWord := strings.Repeat("a", api.MaxWord+1)
	longText := strings.Repeat("a", api.MaxLen+1)
	fewRunes := strings.Repeat("é", api.MaxLen/2+1) // fewer runes than MaxLen, but more bytes
	for _, c := range []struct {
		words []string
		text  string
		want  error
	}{
		{[]string{"a", "b", "c", "d", "e", "f", "g"}, "a", api.ErrFull},
		{make([]string, api.MaxWords+1), "a", api.ErrFull},
		{[]string{longWord}, "a", api.ErrFull},
		{[]string{"éééé\xc3"}, "a", api.ErrFull}, // fewer runes than MaxWord, but more bytes
		{[]string{""}, "a", api.ErrNone},
		{[]string{"a", ""}, "a", api.ErrNone},
		{[]string{"a", "a"}, "a", api.ErrClash},
		{[]string{"a", "b", "a"}, "b", api.ErrClash},
		{nil, longText, api.ErrFull},
		{[]string{"a"}, longText, api.ErrFull},
		{[]string{"é"}, fewRunes, api.ErrFull},
		{[]string{"a"}, strings.Repeat("\x00", 100_000), api.ErrFull},
		// The first word with an error decides.
		{[]string{"", longWord}, "a", api.ErrNone},
		{[]string{longWord, ""}, "a", api.ErrFull},
		{[]string{"a", "a", ""}, "a", api.ErrClash},
		// The words before the text, also if there is nothing to find or to cut.
		{[]string{""}, longText, api.ErrNone},
		{[]string{"a", "a"}, longText, api.ErrClash},
		{make([]string, api.MaxWords+1), longText, api.ErrFull},
		{[]string{""}, "", api.ErrNone},
		{[]string{"a", "a"}, "", api.ErrClash},
		{[]string{longWord}, "", api.ErrFull},
		// The words and the text before the remaining text.
		{[]string{"a", "a"}, "b", api.ErrClash},
		{[]string{longWord}, "b", api.ErrFull},
		{[]string{"b"}, longText, api.ErrFull},
	} {
		compareErrors(t, c.words, c.text, c.want)
	}
}

// All lists of up to MaxWords+1 words of which some have errors.
func TestErrorsOfWords(t *testing.T) {
	longWord := strings.Repeat("a", api.MaxWord+1)
	for _, words := range sample.Lists([]string{"a", "", longWord, "b"}, api.MaxWords+1) {
		compareWithDefinition(t, words, []string{"", "ab", "c"})
	}
}

func TestArgumentsStayAsTheyAre(t *testing.T) {
	all := []string{"b", "ab", "a", "beyond", "the end"}
	kept := slices.Clone(all)
	words := all[:3]
	compareAll(t, words, "aab", hitsAt([][2]int{{0, 2}, {1, 1}, {1, 2}, {2, 0}}))
	compareCut(t, words, "aab", []int{2, 1})
	compareCutError(t, words, "aabc", api.ErrNone)
	compareErrors(t, append(words[:2:2], "b"), "aab", api.ErrClash)
	if !slices.Equal(all, kept) {
		t.Errorf("the words have become %q, want %q", all, kept)
	}
}

func TestResultsAreNewMemory(t *testing.T) {
	words := []string{"b", "ab", "a"}
	hits, err := All(words, "aab")
	if err != nil {
		t.Fatalf("All(%q, \"aab\"): error %v, want none", words, err)
	}
	indexes, err := Cut(words, "aab")
	if err != nil {
		t.Fatalf("Cut(%q, \"aab\"): error %v, want none", words, err)
	}
	clear(hits)
	clear(indexes)
	compareAll(t, words, "aab", hitsAt([][2]int{{0, 2}, {1, 1}, {1, 2}, {2, 0}}))
	compareCut(t, words, "aab", []int{2, 1})
}
