package runs

import (
	"errors"
	"math"
	"slices"
	"strings"
	"testing"

	"letterbeck/api"
	"letterbeck/internal/sample"
)

// writeByDefinition tries all substrings, and takes those of one repeated byte that no
// neighbouring byte continues.
func writeByDefinition(s string) []api.Run {
	var l []api.Run
	for begin := range len(s) {
		for end := begin + 1; end <= len(s); end++ {
			sign := s[begin : begin+1]
			repeated := s[begin:end] == strings.Repeat(sign, end-begin)
			continued := strings.HasSuffix(s[:begin], sign) || strings.HasPrefix(s[end:], sign)
			if repeated && !continued {
				l = append(l, api.Run{Sign: s[begin], Many: end - begin})
			}
		}
	}
	return l
}

// readByDefinition checks each run with all that precede it, and joins the runs only
// when all are checked.
func readByDefinition(l []api.Run) (string, api.Errno) {
	for i, run := range l {
		sum := 0
		for _, r := range l[:i+1] {
			sum += r.Many
		}
		switch {
		case run.Many <= 0 || run.Many > api.MaxRun:
			return "", api.ErrRange
		case i >= 1 && l[i-1].Sign == run.Sign:
			return "", api.ErrClash
		case sum > api.MaxRun:
			return "", api.ErrFull
		}
	}
	s := ""
	for _, run := range l {
		s += strings.Repeat(string([]byte{run.Sign}), run.Many)
	}
	return s, api.OK
}

func compareWrite(t *testing.T, s string, want []api.Run) {
	t.Helper()
	got, err := Write(s)
	if err != nil {
		t.Fatalf("Write(%q): error %v, want none", s, err)
	}
	if !slices.Equal(got, want) {
		t.Fatalf("Write(%q) = %v, want %v", s, got, want)
	}
}

func compareRead(t *testing.T, l []api.Run, want string) {
	t.Helper()
	got, err := Read(l)
	if err != nil {
		t.Fatalf("Read(%v): error %v, want none", l, err)
	}
	if got != want {
		t.Fatalf("Read(%v) = %q, want %q", l, got, want)
	}
}

func compareReadError(t *testing.T, l []api.Run, want api.Errno) {
	t.Helper()
	got, err := Read(l)
	if !errors.Is(err, want) || got != "" {
		t.Fatalf("Read(%v) = %.30q, %v, want nothing, %v", l, got, err, want)
	}
}

// compareBoth checks that s has these runs, and that they lead back to it.
func compareBoth(t *testing.T, s string, l []api.Run) {
	t.Helper()
	compareWrite(t, s, l)
	compareRead(t, l, s)
}

// list returns runs of these lengths, each of the byte of signs at its place.
func list(signs string, lengths ...int) []api.Run {
	var l []api.Run
	for i, many := range lengths {
		l = append(l, api.Run{Sign: signs[i], Many: many})
	}
	return l
}

// alternating returns n runs of length many, of the bytes a and b in turn.
func alternating(n, many int) []api.Run {
	var l []api.Run
	for i := range n {
		l = append(l, api.Run{Sign: "ab"[i%2], Many: many})
	}
	return l
}

func TestWrittenOut(t *testing.T) {
	for _, c := range []struct {
		s string
		l []api.Run
	}{
		{"", nil},
		{"a", list("a", 1)}, // a single byte
		{"\x00", list("\x00", 1)},
		{"\xff", list("\xff", 1)},
		{"aa", list("a", 2)}, // one byte repeated
		{"aaaaa", list("a", 5)},
		{"ab", list("ab", 1, 1)}, // no equal neighbours
		{"abab", list("abab", 1, 1, 1, 1)},
		{"dcba", list("dcba", 1, 1, 1, 1)},
		{"aab", list("ab", 2, 1)}, // several lengths
		{"abb", list("ab", 1, 2)},
		{"abbccc", list("abc", 1, 2, 3)},
		{"cccbba", list("cba", 3, 2, 1)},
		{"abba", list("aba", 1, 2, 1)}, // a byte in several runs
		{"aabaaabaaaa", list("ababa", 2, 1, 3, 1, 4)},
		{"mississippi", list("misisipi", 1, 1, 2, 1, 2, 1, 2, 1)},
		{"aA", list("aA", 1, 1)}, // letters of two cases are two bytes
		{"112", list("12", 2, 1)},
		{"\n\n  ", list("\n ", 2, 2)},
		{"\x00\x00\x00", list("\x00", 3)}, // a zero byte is a byte like others
		{"a\x00\x00a", list("a\x00a", 1, 2, 1)},
		{"\x00a\x00", list("\x00a\x00", 1, 1, 1)},
		{"\xff\xff\xfe", list("\xff\xfe", 2, 1)}, // two invalid bytes are not equal
		{"\x7f\x80\x80", list("\x7f\x80", 1, 2)},
		{"é", list("\xc3\xa9", 1, 1)}, // of bytes, not of runes
		{"éé", list("\xc3\xa9\xc3\xa9", 1, 1, 1, 1)},
		{"\u00e9\xa9", list("\xc3\xa9", 1, 2)}, // a run that begins inside a rune
		{"日", list("\xe6\x97\xa5", 1, 1, 1)},
	} {
		compareBoth(t, c.s, c.l)
	}
}

func TestEmptyLists(t *testing.T) {
	compareRead(t, nil, "")
	compareRead(t, []api.Run{}, "")
}

func TestEachByte(t *testing.T) {
	for b := range 256 {
		sign, other := byte(b), byte(b+1)
		compareBoth(t, string([]byte{sign}), list(string([]byte{sign}), 1))
		compareBoth(t, string([]byte{sign, sign, other, sign}), list(string([]byte{sign, other, sign}), 2, 1, 1))
	}
}

func TestMaxRun(t *testing.T) {
	const n = api.MaxRun
	for _, c := range []struct {
		s string
		l []api.Run
	}{
		{strings.Repeat("a", n), list("a", n)}, // a single run
		{strings.Repeat("\x00", n), list("\x00", n)},
		{strings.Repeat("\xff", n), list("\xff", n)},
		{strings.Repeat("a", n-1), list("a", n-1)},
		{strings.Repeat("a", n-1) + "b", list("ab", n-1, 1)}, // several runs
		{"b" + strings.Repeat("a", n-1), list("ba", 1, n-1)},
		{strings.Repeat("a", n/2) + strings.Repeat("b", n/2), list("ab", n/2, n/2)},
		{"a" + strings.Repeat("b", n-2) + "a", list("aba", 1, n-2, 1)},
		{strings.Repeat("ab", n/2), alternating(n, 1)}, // as many runs as bytes
		{strings.Repeat("aaaaabbbbb", n/10), alternating(n/5, 5)},
		{strings.Repeat("ab", n/2)[:n-1], alternating(n-1, 1)},
	} {
		compareBoth(t, c.s, c.l)
	}
}

func TestAllShortStrings(t *testing.T) {
	for _, s := range slices.Concat(
		sample.Strings("ab", 11), sample.Strings("\x00z\xff", 7), sample.Strings("\x80\xc3\xa9a", 5),
	) {
		compareBoth(t, s, writeByDefinition(s))
	}
}

// All lists of a few runs, most of which have several errors.
func TestAllShortLists(t *testing.T) {
	var elements []api.Run
	for _, many := range []int{
		-1, 0, 1, 2, api.MaxRun/2 - 1, api.MaxRun / 2, api.MaxRun - 1, api.MaxRun, api.MaxRun + 1,
	} {
		elements = append(elements, api.Run{Sign: 0, Many: many}, api.Run{Sign: 'a', Many: many})
	}
	for _, l := range sample.Lists(elements, 4) {
		want, errno := readByDefinition(l)
		if errno != api.OK {
			compareReadError(t, l, errno)
			continue
		}
		compareBoth(t, want, l)
	}
}

func TestWriteTooLong(t *testing.T) {
	for _, s := range []string{
		strings.Repeat("a", api.MaxRun+1),
		strings.Repeat("a", api.MaxRun) + "b",
		strings.Repeat("ab", api.MaxRun/2) + "a",
		strings.Repeat("é", api.MaxRun/2+1), // fewer runes than MaxRun, but more bytes
		strings.Repeat("\x00", 100_000),
	} {
		got, err := Write(s)
		if !errors.Is(err, api.ErrFull) || len(got) != 0 {
			t.Errorf("Write of %d bytes = %v, %v, want nothing, ErrFull", len(s), got, err)
		}
	}
}

// The number of a run is wrong at the first, a middle, the last or the only place.
func TestReadOutOfRange(t *testing.T) {
	for _, many := range []int{
		math.MinInt, math.MinInt + 1, math.MinInt32, -1 << 32, -api.MaxRun, -1, 0,
		api.MaxRun + 1, 1 << 32, 1<<32 + 1, math.MaxInt - 1, math.MaxInt,
	} {
		for _, l := range [][]api.Run{
			list("a", many),
			list("\x00", many),
			list("abc", many, 2, 1),
			list("abc", 1, many, 1),
			list("abc", 1, 2, many),
			list("abc", many, many, many),
			list("aa", 1, many),                       // also a clash
			list("ab", api.MaxRun, many),              // also too many bytes
			list("aa", api.MaxRun, many),              // also both
			list("aa", many, 1),                       // before a clash
			list("abc", many, api.MaxRun, api.MaxRun), // before too many bytes
		} {
			compareReadError(t, l, api.ErrRange)
		}
	}
}

func TestReadClash(t *testing.T) {
	for _, l := range [][]api.Run{
		list("aa", 1, 1),
		list("aa", 1, 2),
		list("\x00\x00", 1, 1),
		list("\xff\xff", 3, 1),
		list("aabc", 1, 1, 1, 1), // at the first place
		list("abbc", 1, 1, 1, 1), // in the middle
		list("abcc", 1, 1, 1, 1), // at the last place
		list("aaa", 1, 1, 1),
		list("aa", api.MaxRun-1, 1),
		list("aa", api.MaxRun, 1), // also too many bytes
		list("aa", api.MaxRun, api.MaxRun),
		list("baa", 1, api.MaxRun-1, 1),
		list("aab", 1, 1, 0), // before a number out of range
		list("aab", 1, 1, api.MaxRun+1),
		list("aab", 1, 1, api.MaxRun), // before too many bytes
	} {
		compareReadError(t, l, api.ErrClash)
	}
}

func TestReadTooLong(t *testing.T) {
	const n = api.MaxRun
	for _, l := range [][]api.Run{
		list("ab", n, 1),
		list("ab", 1, n),
		list("ab", n, n),
		list("ab", n/2, n/2+1),
		list("\x00\xff", n, 1),
		list("abcd", n, 1, 1, 1),   // as early as it can be
		list("abcd", 1, n, 1, 1),   // in the middle
		list("abcd", 1, 1, 1, n-2), // at the last place
		list("abc", n, 1, 0),       // before a number out of range
		list("abc", n, 1, -n),      // of which the sum would be in range
		list("abc", n, 1, n+1),
		list("abb", n, 1, 1), // before a clash
		list("abb", n, 1, 0),
		alternating(n+1, 1),
		alternating(n/5+1, 5),
		alternating(2, n),
		alternating(100_000, n),
	} {
		compareReadError(t, l, api.ErrFull)
	}
}

// Neither the runs nor the spare capacity behind them may change.
func TestReadLeavesItsArgument(t *testing.T) {
	for _, all := range [][]api.Run{
		list("abcd", 2, 1, 3, 4),
		list("abcd", 2, 0, 3, 4),
		list("aacd", 2, 1, 3, 4),
		list("abcd", 2, api.MaxRun, 3, 4),
	} {
		before := slices.Clone(all)
		first, firstErr := Read(all[:2])
		again, againErr := Read(all[:2])
		if !slices.Equal(all, before) {
			t.Errorf("Read(%v) has changed its argument to %v", before, all)
		}
		if first != again || !errors.Is(againErr, firstErr) {
			t.Errorf("Read(%v) = %q, %v, then %q, %v", all[:2], first, firstErr, again, againErr)
		}
	}
}

// A caller may change the runs that it was given.
func TestWriteSharesNoMemory(t *testing.T) {
	first, _ := Write("aab")
	second, _ := Write("aab")
	clear(first[:cap(first)])
	if want := list("ab", 2, 1); !slices.Equal(second, want) {
		t.Errorf("the runs have become %v, want %v", second, want)
	}
	compareWrite(t, "aab", list("ab", 2, 1))
}
