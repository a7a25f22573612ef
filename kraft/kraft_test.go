package kraft

import (
	"errors"
	"math"
	"slices"
	"strings"
	"testing"

	"letterbeck/api"
	"letterbeck/internal/sample"
)

func clash(a, b string) bool {
	return strings.HasPrefix(a, b) || strings.HasPrefix(b, a)
}

// codesByDefinition tries for each code word all strings of its length in order. It
// returns nil if one of them has no string left.
func codesByDefinition(long []int) []string {
	codes := make([]string, len(long))
	var given []string
	for length := 1; length <= api.MaxBits; length++ {
		for i := range long {
			if long[i] != length {
				continue
			}
			word := firstLeft(length, given)
			if word == "" {
				return nil
			}
			codes[i] = word
			given = append(given, word)
		}
	}
	return codes
}

func firstLeft(length int, given []string) string {
	word := strings.Repeat("0", length)
	for word != "" {
		if !slices.ContainsFunc(given, func(other string) bool { return clash(word, other) }) {
			return word
		}
		word = following(word)
	}
	return ""
}

// following returns the next string of the same length, or nothing after the last one.
func following(word string) string {
	head := strings.TrimRight(word, "1")
	if head == "" {
		return ""
	}
	return head[:len(head)-1] + "1" + strings.Repeat("0", len(word)-len(head))
}

func roomByDefinition(long []int) int {
	sum := 0.0
	for _, n := range long {
		sum += math.Pow(2, float64(api.MaxBits-n))
	}
	return int(sum)
}

func freeByDefinition(words []string) bool {
	for i := range words {
		for j := range i {
			if clash(words[i], words[j]) {
				return false
			}
		}
	}
	return true
}

// ways returns the number of lists of words whose concatenation is text.
func ways(words []string, text string) int {
	counts := make([]int, len(text)+1)
	counts[0] = 1
	for end := range counts {
		for _, word := range words {
			if strings.HasSuffix(text[:end], word) {
				counts[end] += counts[end-len(word)]
			}
		}
	}
	return counts[len(text)]
}

// inTwoWays tells whether one of the concatenations of at most n bytes is also one of
// other words.
func inTwoWays(words []string, n int) bool {
	seen := map[string]bool{"": true}
	open := []string{""}
	for len(open) > 0 {
		text := open[0]
		open = open[1:]
		for _, word := range words {
			longer := text + word
			if len(longer) > n {
				continue
			}
			if seen[longer] {
				return true
			}
			seen[longer] = true
			open = append(open, longer)
		}
	}
	return false
}

// reading is two readers of one text, each in a word, so many bytes behind its begin, or
// between two words (at 0 of word 0), and whether they have been at different places.
type reading struct {
	word, at [2]int
	differ   bool
}

// shortestInTwoWays returns the length of the shortest string that is made in two ways, or
// 0 if there is none. It lets two readers read on byte by byte, and looks for those that
// are both between words again after they have been at different places. It knows no
// rests.
func shortestInTwoWays(words []string) int {
	seen := map[reading]bool{{}: true}
	open := []reading{{}}
	for length := 1; len(open) > 0; length++ {
		var longer []reading
		for _, r := range open {
			for _, next := range readOn(words, r) {
				if next == (reading{differ: true}) {
					return length
				}
				if !seen[next] {
					seen[next] = true
					longer = append(longer, next)
				}
			}
		}
		open = longer
	}
	return 0
}

// readOn returns the readings that are one byte further than r.
func readOn(words []string, r reading) []reading {
	var all []reading
	for _, first := range places(words, r.word[0], r.at[0]) {
		for _, second := range places(words, r.word[1], r.at[1]) {
			if words[first[0]][first[1]] != words[second[0]][second[1]] {
				continue
			}
			next := reading{differ: r.differ || first != second}
			next.word[0], next.at[0] = after(words, first)
			next.word[1], next.at[1] = after(words, second)
			all = append(all, next)
		}
	}
	return all
}

// places returns the words and positions of the bytes that a reader may read next.
func places(words []string, word, at int) [][2]int {
	if at > 0 {
		return [][2]int{{word, at}}
	}
	var all [][2]int
	for i := range words {
		all = append(all, [2]int{i, 0})
	}
	return all
}

func after(words []string, place [2]int) (word, at int) {
	if place[1]+1 == len(words[place[0]]) {
		return 0, 0
	}
	return place[0], place[1] + 1
}

func compareRoom(t *testing.T, long []int, want int) {
	t.Helper()
	if err := Check(long); err != nil {
		t.Fatalf("Check(%v): error %v, want none", long, err)
	}
	if got, err := Room(long); err != nil || got != want {
		t.Fatalf("Room(%v) = %d, %v, want %d, nil", long, got, err, want)
	}
}

func compareCodes(t *testing.T, long []int, want []string) {
	t.Helper()
	if got, err := Codes(long); err != nil || !slices.Equal(got, want) {
		t.Fatalf("Codes(%v) = %q, %v, want %q, nil", long, got, err, want)
	}
}

func compareClash(t *testing.T, long []int) {
	t.Helper()
	if got, err := Codes(long); !errors.Is(err, api.ErrClash) || len(got) != 0 {
		t.Fatalf("Codes(%v) = %q, %v, want nothing, %v", long, got, err, api.ErrClash)
	}
}

// compareLengthError checks that all functions of lengths fail in the same way.
func compareLengthError(t *testing.T, long []int, want api.Errno) {
	t.Helper()
	if err := Check(long); !errors.Is(err, want) {
		t.Fatalf("Check(%v): error %v, want %v", long, err, want)
	}
	if got, err := Room(long); !errors.Is(err, want) || got != 0 {
		t.Fatalf("Room(%v) = %d, %v, want 0, %v", long, got, err, want)
	}
	if got, err := Codes(long); !errors.Is(err, want) || len(got) != 0 {
		t.Fatalf("Codes(%v) = %q, %v, want nothing, %v", long, got, err, want)
	}
}

func compareFree(t *testing.T, words []string, want bool) {
	t.Helper()
	if got, err := Free(words); err != nil || got != want {
		t.Fatalf("Free(%q) = %t, %v, want %t, nil", words, got, err, want)
	}
}

func compareApart(t *testing.T, words []string, want bool) {
	t.Helper()
	if got, err := Apart(words); err != nil || got != want {
		t.Fatalf("Apart(%q) = %t, %v, want %t, nil", words, got, err, want)
	}
}

// compareWordError checks that both functions of words fail in the same way.
func compareWordError(t *testing.T, words []string, want api.Errno) {
	t.Helper()
	if got, err := Free(words); !errors.Is(err, want) || got {
		t.Fatalf("Free(%q) = %t, %v, want false, %v", words, got, err, want)
	}
	if got, err := Apart(words); !errors.Is(err, want) || got {
		t.Fatalf("Apart(%q) = %t, %v, want false, %v", words, got, err, want)
	}
}

func TestLengthsWrittenOut(t *testing.T) {
	for _, c := range []struct {
		long  []int
		room  int
		codes []string
	}{
		{nil, 0, nil}, // no lengths at all
		{[]int{}, 0, nil},
		{[]int{0, 99}[:0], 0, nil},

		{[]int{1}, 2048, []string{"0"}}, // a single length
		{[]int{2}, 1024, []string{"00"}},
		{[]int{7}, 32, []string{"0000000"}},
		{[]int{11}, 2, []string{"00000000000"}},
		{[]int{12}, 1, []string{"000000000000"}},

		{[]int{1, 1}, 4096, []string{"0", "1"}}, // lengths that are all equal
		{[]int{2, 2, 2}, 3072, []string{"00", "01", "10"}},
		{[]int{2, 2, 2, 2}, 4096, []string{"00", "01", "10", "11"}},
		{[]int{3, 3, 3, 3, 3}, 2560, []string{"000", "001", "010", "011", "100"}},
		{[]int{12, 12}, 2, []string{"000000000000", "000000000001"}},

		{[]int{1, 2}, 3072, []string{"0", "10"}}, // in increasing order
		{[]int{1, 2, 3}, 3584, []string{"0", "10", "110"}},
		{[]int{1, 3}, 2560, []string{"0", "100"}},
		{[]int{2, 3, 5}, 1664, []string{"00", "010", "01100"}},
		{[]int{2, 2, 3, 4}, 2816, []string{"00", "01", "100", "1010"}},
		{[]int{3, 2, 1}, 3584, []string{"110", "10", "0"}}, // in decreasing order
		{[]int{5, 3, 2}, 1664, []string{"01100", "010", "00"}},
		{[]int{4, 3, 2, 2}, 2816, []string{"1010", "100", "00", "01"}},

		{[]int{2, 1, 2}, 4096, []string{"10", "0", "11"}}, // equal ones in the given order
		{[]int{2, 2, 1}, 4096, []string{"10", "11", "0"}},
		{[]int{1, 2, 2}, 4096, []string{"0", "10", "11"}},
		{[]int{3, 1, 3, 2}, 4096, []string{"110", "0", "111", "10"}},
		{[]int{3, 2, 3, 2, 3, 2}, 4608, nil},
		{[]int{3, 2, 3, 2, 3}, 3584, []string{"100", "00", "101", "01", "110"}},
		{[]int{4, 3, 4, 3, 4, 3, 4}, 2560, []string{"0110", "000", "0111", "001", "1000", "010", "1001"}},

		{[]int{1, 12}, 2049, []string{"0", "100000000000"}}, // 1 and MaxBits
		{[]int{12, 1}, 2049, []string{"100000000000", "0"}},
		{[]int{12, 1, 12}, 2050, []string{"100000000000", "0", "100000000001"}},

		{[]int{1, 1, 12}, 4097, nil}, // just above the whole room
		{[]int{12, 1, 1}, 4097, nil},
		{[]int{1, 12, 1}, 4097, nil},
		{[]int{1, 2, 2, 12}, 4097, nil},
		{[]int{12, 2, 2, 2, 2}, 4097, nil},
		{[]int{1, 1, 11}, 4098, nil},
		{[]int{1, 1, 1}, 6144, nil}, // far above it
		{[]int{2, 2, 2, 2, 2}, 5120, nil},
	} {
		compareRoom(t, c.long, c.room)
		if c.room > whole {
			compareClash(t, c.long)
		} else {
			compareCodes(t, c.long, c.codes)
		}
	}
}

func TestMaxKinds(t *testing.T) {
	const n = api.MaxKinds
	ones := slices.Repeat([]int{1}, n)
	compareRoom(t, ones, n*2048)
	compareClash(t, ones)
	longest := slices.Repeat([]int{api.MaxBits}, n)
	compareRoom(t, longest, n)
	compareCodes(t, longest, []string{
		"000000000000", "000000000001", "000000000010", "000000000011", "000000000100",
		"000000000101", "000000000110", "000000000111", "000000001000", "000000001001",
	})
	full := []int{1, 2, 3, 4, 5, 6, 7, 8, 9, 9}
	compareRoom(t, full, whole)
	words := []string{
		"0", "10", "110", "1110", "11110", "111110", "1111110", "11111110", "111111110", "111111111",
	}
	compareCodes(t, full, words)
	compareRoom(t, []int{9, 9, 8, 7, 6, 5, 4, 3, 2, 1}, whole)
	compareCodes(t, []int{9, 9, 8, 7, 6, 5, 4, 3, 2, 1}, []string{
		words[8], words[9], words[7], words[6], words[5], words[4], words[3], words[2], words[1], words[0],
	})
	mixed := []int{3, 4, 3, 4, 3, 4, 3, 4, 3, 3}
	compareRoom(t, mixed, whole)
	compareCodes(t, mixed, []string{
		"000", "1100", "001", "1101", "010", "1110", "011", "1111", "100", "101",
	})
	above := []int{1, 2, 3, 4, 5, 6, 7, 7, 12, 12}
	compareRoom(t, above, whole+2)
	compareClash(t, above)
	compareRoom(t, above[:9], whole+1)
	compareClash(t, above[:9])
	compareRoom(t, above[:8], whole)
	compareCodes(t, above[:8], []string{"0", "10", "110", "1110", "11110", "111110", "1111110", "1111111"})
}

// There are code words exactly if they have room.
func TestAllShortListsOfLengths(t *testing.T) {
	for _, long := range slices.Concat(
		sample.Lists([]int{1, 2, 3, 4}, 6),
		sample.Lists([]int{2, 3, 4, 6, 12}, 5),
		sample.Lists([]int{1, 2, 5, 11, 12}, 4),
		sample.Lists([]int{3, 4}, api.MaxKinds),
	) {
		room := roomByDefinition(long)
		compareRoom(t, long, room)
		codes := codesByDefinition(long)
		if (len(codes) == len(long)) != (room <= whole) {
			t.Fatalf("the lengths %v have the room %d and the codes %q", long, room, codes)
		}
		if room > whole {
			compareClash(t, long)
		} else {
			compareCodes(t, long, codes)
		}
	}
}

func TestCodesAreFree(t *testing.T) {
	for _, long := range slices.Concat(
		sample.Lists([]int{1, 2, 3, 4, 8}, 5),
		sample.Lists([]int{3, 5}, api.MaxWords),
	) {
		codes, err := Codes(long)
		if err != nil {
			continue
		}
		compareFree(t, codes, true)
		compareApart(t, codes, true)
	}
}

// One length is wrong, at any place, or several are, and the room of the other ones may be
// exceeded.
func TestLengthOutOfRange(t *testing.T) {
	wrong := append(sample.Outside(1, api.MaxBits), 63, 64, 65)
	for _, long := range [][]int{{1}, {1, api.MaxBits}, {1, 1, 1, 1}, slices.Repeat([]int{5}, api.MaxKinds)} {
		for replaced := range sample.Replaced(long, wrong) {
			compareLengthError(t, replaced, api.ErrRange)
		}
	}
	compareLengthError(t, []int{0, 1, api.MaxBits + 1}, api.ErrRange)
	compareLengthError(t, make([]int, api.MaxKinds), api.ErrRange)
}

// Neither wrong lengths, wherever they stand, nor their room hide the error.
func TestTooManyLengths(t *testing.T) {
	for _, n := range []int{api.MaxKinds + 1, api.MaxKinds + 2, 2 * api.MaxKinds, 1000} {
		compareLengthError(t, make([]int, n), api.ErrFull)
		compareLengthError(t, slices.Repeat([]int{1}, n), api.ErrFull)
		compareLengthError(t, slices.Repeat([]int{api.MaxBits}, n), api.ErrFull)
		compareLengthError(t, slices.Repeat([]int{api.MaxBits + 1}, n), api.ErrFull)
		for replaced := range sample.Replaced(slices.Repeat([]int{8}, n), []int{-1, 0, api.MaxBits + 1}) {
			compareLengthError(t, replaced, api.ErrFull)
		}
	}
}

// Valid and invalid lengths are told apart in all their orders.
func TestAllShortListsWithWrongLengths(t *testing.T) {
	outside := func(length int) bool { return length < 1 || length > api.MaxBits }
	for _, long := range sample.Lists([]int{0, 1, api.MaxBits, api.MaxBits + 1}, 5) {
		if slices.ContainsFunc(long, outside) {
			compareLengthError(t, long, api.ErrRange)
		} else {
			compareRoom(t, long, roomByDefinition(long))
		}
	}
}

func TestWordsWrittenOut(t *testing.T) {
	for _, c := range []struct {
		words       []string
		free, apart bool
	}{
		{nil, true, true}, // no words at all
		{[]string{}, true, true},
		{[]string{"", "a"}[:0], true, true},

		{[]string{"a"}, true, true}, // a single word
		{[]string{"aa"}, true, true},
		{[]string{"abababab"}, true, true},
		{[]string{"\x00"}, true, true},

		{[]string{"a", "b"}, true, true}, // no word is a prefix of another one
		{[]string{"0", "10", "11"}, true, true},
		{[]string{"ab", "ba"}, true, true},
		{[]string{"ab", "aab", "aaab"}, true, true},
		{[]string{"b", "ab"}, true, true},
		{[]string{"a", "A"}, true, true},
		{[]string{"\xff", "\x00", "\xfe\xff"}, true, true},
		{[]string{"a", "ba", "bba", "bbba", "bbbba", "bbbbba"}, true, true},

		{[]string{"a", "ab"}, false, true}, // one is, but there is at most one way
		{[]string{"ab", "a"}, false, true},
		{[]string{"c", "ab", "a"}, false, true},
		{[]string{"a", "ab", "bb"}, false, true}, // the end of abbb.. tells where to begin
		{[]string{"a", "ab", "abb"}, false, true},
		{[]string{"0", "01", "011", "0111"}, false, true},
		{[]string{"a", "ab", "bc"}, false, true},
		{[]string{"a", "ab", "bc", "cd", "de", "ef"}, false, true},
		{[]string{"\x00", "\x00\xff"}, false, true},

		{[]string{"a", "ab", "b"}, false, false}, // some string is made in two ways
		{[]string{"b", "ab", "a"}, false, false},
		{[]string{"a", "b", "ab"}, false, false},
		{[]string{"ab", "a", "b"}, false, false},
		{[]string{"a", "ab", "ba"}, false, false}, // a-ba, ab-a
		{[]string{"ba", "ab", "a"}, false, false},
		{[]string{"a", "ab", "bc", "c"}, false, false},             // a-bc, ab-c
		{[]string{"a", "ab", "bc", "cd", "d"}, false, false},       // a-bc-d, ab-cd
		{[]string{"a", "ab", "bc", "cd", "de", "e"}, false, false}, // a-bc-de, ab-cd-e
		{[]string{"aba", "ab", "ac", "c"}, false, false},           // aba-c, ab-ac
		{[]string{"\x00", "\x00\xff", "\xff"}, false, false},

		{[]string{"a", "aa"}, false, false}, // words that all repeat one byte
		{[]string{"aa", "aaa"}, false, false},
		{[]string{"aaa", "aa"}, false, false},
		{[]string{"aa", "aaaa"}, false, false},
		{[]string{"aaa", "aaaaa"}, false, false},
		{[]string{"aaaaaaa", "aaaaaaaa"}, false, false},
		{[]string{"\x00", "\x00\x00"}, false, false},
		{[]string{"abab", "ab"}, false, false},
		{[]string{"abab", "ababab"}, false, false},

		{[]string{"abcdefg1", "abcdefg2", "abcdefg3", "abcdefg4", "abcdefg5", "abcdefg6"}, true, true}, // MaxWords of MaxWord bytes
		{[]string{"1abcdefg", "2abcdefg", "3abcdefg", "4abcdefg", "5abcdefg", "6abcdefg"}, true, true},
		{[]string{"aaaaaaaa", "aaaaaaab", "aaaaaaba", "aaaaabaa", "aaaabaaa", "aaabaaaa"}, true, true},
	} {
		compareFree(t, c.words, c.free)
		compareApart(t, c.words, c.apart)
	}
}

// Each of these lists makes the text, and no shorter one, in two ways.
func TestLongTextsInTwoWays(t *testing.T) {
	for _, c := range []struct {
		words []string
		text  string
	}{
		{[]string{"abaaaaaa", "a", "baaaaaab"}, "abaaaaaabaaaaaabaaaaaa"},
		{[]string{"bbaabbaa", "baabba", "abbaab", "bbaabba"}, "bbaabbaabbaabbaabbaabbaabbaabba"},
		{[]string{"abbba", "abbbaabb", "aaabbbaa", "bbabbaaa", "b"}, "abbbaabbbabbbabbaaabbbaaabbbaabb"},
		{[]string{"bbaa", "ababb", "babba", "ab", "aabbb", "bbbab"}, "ababbabbabbaaabbbaabbbab"},
		{[]string{"aaabbbba", "baba", "bbb", "aabbb", "babaaab", "baaabbbb"}, "babaaabbbbaaabbbbaaabbbbabaaabbbb"},
		{[]string{"aaabbbba", "abaaa", "bbb", "abaaabab", "babaaab", "baaabbbb"}, "abaaababaaabbbbabaaabbbbabaaababaaabbbbabaaabbbb"},
	} {
		if n := ways(c.words, c.text); n != 2 {
			t.Fatalf("the words %q make %q in %d ways, want 2", c.words, c.text, n)
		}
		if n := shortestInTwoWays(c.words); n != len(c.text) {
			t.Fatalf("the words %q make a string of %d bytes in two ways, want %d", c.words, n, len(c.text))
		}
		compareFree(t, c.words, false)
		compareApart(t, c.words, false)
		slices.Reverse(c.words)
		compareApart(t, c.words, false)
		for i := range c.words {
			fewer := slices.Delete(slices.Clone(c.words), i, i+1)
			compareApart(t, fewer, shortestInTwoWays(fewer) == 0)
		}
	}
}

// different tells whether no word occurs twice.
func different(words []string) bool {
	for i, word := range words {
		if slices.Contains(words[:i], word) {
			return false
		}
	}
	return true
}

func TestAllShortWords(t *testing.T) {
	for _, words := range slices.Concat(
		sample.Lists(sample.Strings("ab", 3)[1:], 4),
		sample.Lists(sample.Strings("a", api.MaxWord)[1:], 3),
		sample.Lists(sample.Strings("abc", 2)[1:], 3),
		sample.Lists(sample.Strings("\x00\xff", 4)[1:], 2),
	) {
		if !different(words) {
			continue
		}
		compareFree(t, words, freeByDefinition(words))
		compareApart(t, words, shortestInTwoWays(words) == 0)
	}
}

// With two words of at most 4 bytes, or three of at most 2, a short text is made in two
// ways if any text is.
func TestApartByTexts(t *testing.T) {
	for _, words := range slices.Concat(
		sample.Lists(sample.Strings("ab", 4)[1:], 2),
		sample.Lists(sample.Strings("abc", 2)[1:], 3),
	) {
		if different(words) {
			compareApart(t, words, !inTwoWays(words, 8))
		}
	}
}

func TestMaxWords(t *testing.T) {
	long := strings.Repeat("a", api.MaxWord-1)
	words := []string{long + "a", long + "b", long + "c", long + "d", long + "e", long + "f"}
	if len(words) != api.MaxWords || len(words[0]) != api.MaxWord {
		t.Fatalf("%q are not as many and as long as they may be", words)
	}
	compareFree(t, words, true)
	compareApart(t, words, true)
	words[3] = "a"
	compareFree(t, words, false)
	compareApart(t, words, false)
	words[0], words[3] = "g"+long, long // no word goes on where long ends within another one
	compareFree(t, words, false)
	compareApart(t, words, true)
	words[0] = "b" + long // long-blong, longb-long
	compareFree(t, words, false)
	compareApart(t, words, false)
}

func TestWordErrors(t *testing.T) {
	tooLong := strings.Repeat("b", api.MaxWord+1)
	for _, c := range []struct {
		words []string
		want  api.Errno
	}{
		{[]string{"a", "b", "c", "d", "e", "f", "g"}, api.ErrFull}, // too many words
		{[]string{"a", "a", "a", "a", "a", "a", "a"}, api.ErrFull},
		{make([]string, api.MaxWords+1), api.ErrFull},
		{make([]string, 1000), api.ErrFull},
		{[]string{"", "a", "a", tooLong, "", "", ""}, api.ErrFull},

		{[]string{tooLong}, api.ErrFull}, // a word that is too long
		{[]string{strings.Repeat("b", 10000)}, api.ErrFull},
		{[]string{tooLong, "a", "c"}, api.ErrFull},
		{[]string{"a", tooLong, "c"}, api.ErrFull},
		{[]string{"a", "c", tooLong}, api.ErrFull},

		{[]string{""}, api.ErrNone}, // an empty word
		{[]string{"", "a", "b"}, api.ErrNone},
		{[]string{"a", "", "b"}, api.ErrNone},
		{[]string{"a", "b", ""}, api.ErrNone},
		{[]string{"", ""}, api.ErrNone},

		{[]string{"a", "a"}, api.ErrClash}, // a word that occurred before
		{[]string{"a", "b", "a"}, api.ErrClash},
		{[]string{"b", "a", "a"}, api.ErrClash},
		{[]string{"a", "b", "ab", "c", "d", "b"}, api.ErrClash},
		{[]string{"\x00", "\x00"}, api.ErrClash},
		{[]string{"abababab", "abababab"}, api.ErrClash},

		{[]string{tooLong, ""}, api.ErrFull}, // the first wrong word decides
		{[]string{"", tooLong}, api.ErrNone},
		{[]string{tooLong, tooLong}, api.ErrFull},
		{[]string{"a", "a", ""}, api.ErrClash},
		{[]string{"a", "", "a"}, api.ErrNone},
		{[]string{"a", "a", tooLong}, api.ErrClash},
		{[]string{"a", tooLong, "a"}, api.ErrFull},
		{[]string{"a", "ab", "b", "b", tooLong, ""}, api.ErrClash},
	} {
		compareWordError(t, c.words, c.want)
	}
}

// Neither the arguments nor the spare capacity behind them may change.
func TestLengthsStay(t *testing.T) {
	for _, all := range [][]int{
		{2, 1, 2, 30, 40},
		{3, 2, 1, 3, 40},
		{1, 1, 1, 1, 1},
		{5, 0, 13, 30, 40},
		slices.Concat(slices.Repeat([]int{4}, api.MaxKinds), []int{2, 1}),
	} {
		before := slices.Clone(all)
		for n := range len(all) {
			long := all[:n]
			err := Check(long)
			_, roomErr := Room(long)
			_, _ = Codes(long)
			if !slices.Equal(all, before) {
				t.Errorf("the lengths %v have become %v", before, all)
			}
			if again := Check(long); !errors.Is(again, err) || !errors.Is(roomErr, err) {
				t.Errorf("%v: errors %v, %v, %v, want the same", long, err, roomErr, again)
			}
		}
	}
}

func TestWordsStay(t *testing.T) {
	for _, all := range [][]string{
		{"a", "ab", "b", "x", "y"},
		{"ba", "ab", "a", "x", "y"},
		{"b", "a", "b", "x", "y"},
		{"b", "", "b", "x", "y"},
		{"f", "e", "d", "c", "b", "a", "x", "y"},
	} {
		before := slices.Clone(all)
		for n := range len(all) {
			words := all[:n]
			_, freeErr := Free(words)
			_, apartErr := Apart(words)
			if !slices.Equal(all, before) {
				t.Errorf("the words %q have become %q", before, all)
			}
			if !errors.Is(freeErr, apartErr) {
				t.Errorf("%q: errors %v, %v, want the same", words, freeErr, apartErr)
			}
		}
	}
}

// A caller may change the codes that it was given, and the lengths that it has given.
func TestCodesShareNoMemory(t *testing.T) {
	long := []int{2, 1, 2}
	first, _ := Codes(long)
	second, _ := Codes(long)
	clear(first[:cap(first)])
	clear(long)
	if want := []string{"10", "0", "11"}; !slices.Equal(second, want) {
		t.Errorf("the codes have become %q, want %q", second, want)
	}
	compareCodes(t, []int{2, 1, 2}, []string{"10", "0", "11"})
}

// A result does not depend on the calls before it.
func TestCallsAreIndependent(t *testing.T) {
	for range 3 {
		compareApart(t, []string{"a", "ab", "b"}, false)
		compareApart(t, []string{"a", "ab"}, true)
		compareWordError(t, []string{"a", "a"}, api.ErrClash)
		compareFree(t, []string{"a", "ab"}, false)
		compareFree(t, []string{"aa", "ab"}, true)
		compareCodes(t, []int{1, 1}, []string{"0", "1"})
		compareClash(t, []int{1, 1, 1})
		compareCodes(t, []int{1}, []string{"0"})
	}
}
