package front

import (
	"errors"
	"slices"
	"strings"
	"testing"

	"letterbeck/api"
	"letterbeck/internal/sample"
)

// different returns the number of different bytes of s that are greater than bound.
func different(s string, bound int) int {
	n := 0
	for b := bound + 1; b < 256; b++ {
		if strings.IndexByte(s, byte(b)) >= 0 {
			n++
		}
	}
	return n
}

// thereByDefinition keeps no list: ahead of a byte stand the different ones since it was
// last moved, and ahead of one that was never moved also those that are smaller than it.
func thereByDefinition(s string) []int {
	var l []int
	for i := range len(s) {
		before, sign := s[:i], s[i]
		if last := strings.LastIndexByte(before, sign); last >= 0 {
			l = append(l, different(before[last+1:], -1))
		} else {
			l = append(l, int(sign)+different(before, int(sign)))
		}
	}
	return l
}

func compareThere(t *testing.T, s string, want []int) {
	t.Helper()
	got, err := There(s)
	if err != nil {
		t.Fatalf("There(%q): error %v, want none", s, err)
	}
	if !slices.Equal(got, want) {
		t.Fatalf("There(%q) = %v, want %v", s, got, want)
	}
}

func compareBack(t *testing.T, l []int, want string) {
	t.Helper()
	got, err := Back(l)
	if err != nil {
		t.Fatalf("Back(%v): error %v, want none", l, err)
	}
	if got != want {
		t.Fatalf("Back(%v) = %q, want %q", l, got, want)
	}
}

func compareBackError(t *testing.T, l []int, want api.Errno) {
	t.Helper()
	got, err := Back(l)
	if !errors.Is(err, want) || got != "" {
		t.Fatalf("Back(%v) = %.30q, %v, want nothing, %v", l, got, err, want)
	}
}

// compareBoth checks that s has this code, and that the code leads back to it.
func compareBoth(t *testing.T, s string, l []int) {
	t.Helper()
	compareThere(t, s, l)
	compareBack(t, l, s)
}

// falling returns all bytes in decreasing order.
func falling() string {
	all := []byte(sample.Bytes())
	slices.Reverse(all)
	return string(all)
}

// without returns s with no sign in it.
func without(s string, sign byte) string {
	return strings.ReplaceAll(s, string([]byte{sign}), "")
}

// numbers returns the numbers from begin on and before end.
func numbers(begin, end int) []int {
	var l []int
	for i := begin; i < end; i++ {
		l = append(l, i)
	}
	return l
}

func TestWrittenOut(t *testing.T) {
	for _, c := range []struct {
		s string
		l []int
	}{
		{"", nil},
		{"a", []int{97}}, // a single byte
		{"\x00", []int{0}},
		{"\x01", []int{1}},
		{"\xff", []int{255}},
		{"aa", []int{97, 0}}, // one byte repeated
		{"aaaaa", []int{97, 0, 0, 0, 0}},
		{"\x01\x01", []int{1, 0}},
		{"\xff\xff\xff", []int{255, 0, 0}},
		{"ab", []int{97, 98}}, // two bytes in turn
		{"ba", []int{98, 98}},
		{"ababa", []int{97, 98, 1, 1, 1}},
		{"babab", []int{98, 98, 1, 1, 1}},
		{"\x00\xff\x00\xff", []int{0, 255, 1, 1}},
		{"\xff\x00\xff\x00", []int{255, 1, 1, 1}},
		{"abcd", []int{97, 98, 99, 100}}, // bytes that all differ
		{"dcba", []int{100, 100, 100, 100}},
		{"acb", []int{97, 99, 99}},
		{"bac", []int{98, 98, 99}},
		{"abca", []int{97, 98, 99, 2}}, // a byte that comes back
		{"abcab", []int{97, 98, 99, 2, 2}},
		{"abcba", []int{97, 98, 99, 1, 2}},
		{"abbbba", []int{97, 98, 0, 0, 0, 1}},
		{"hello", []int{104, 102, 108, 0, 111}},
		{"banana", []int{98, 98, 110, 1, 1, 1}},
		{"mississippi", []int{109, 106, 115, 0, 1, 1, 0, 1, 113, 0, 1}},
		{"aA", []int{97, 66}}, // letters of two cases are two bytes
		{"\x00\x00\x00", []int{0, 0, 0}},
		{"a\x00a", []int{97, 1, 1}}, // a zero byte is a byte like others
		{"\x00a\x00", []int{0, 97, 1}},
		{"\xfe\xff", []int{254, 255}}, // two invalid bytes are not equal
		{"\xff\xfe", []int{255, 255}},
		{"\x7f\x80", []int{127, 128}},
		{"\x80\x7f", []int{128, 128}},
		{"é", []int{195, 170}}, // of bytes, not of runes
		{"éé", []int{195, 170, 1, 1}},
		{"日本", []int{230, 152, 166, 2, 158, 173}},
	} {
		compareBoth(t, c.s, c.l)
	}
}

func TestNoNumbers(t *testing.T) {
	compareBack(t, nil, "")
	compareBack(t, []int{}, "")
}

func TestEachByte(t *testing.T) {
	for b := range 256 {
		sign := string([]byte{byte(b)})
		compareBoth(t, sign, []int{b})
		compareBoth(t, sign+sign+sign, []int{b, 0, 0})
	}
}

// The smallest number stays with the first byte, and the greatest one takes the last.
func TestLeastAndGreatestNumbers(t *testing.T) {
	compareBoth(t, "\x00", []int{0})
	compareBoth(t, "\x00\x00\x00\x00", []int{0, 0, 0, 0})
	compareBoth(t, "\xff", []int{255})
	compareBoth(t, "\xff\xfe\xfd\xfc", []int{255, 255, 255, 255})
	compareBoth(t, "\x00\xff\xff\xfe", []int{0, 255, 0, 255})
	compareBoth(t, "\xff\xff\xfe\xfe", []int{255, 0, 255, 0})
}

func TestAllBytes(t *testing.T) {
	up, down := sample.Bytes(), falling()
	last := slices.Repeat([]int{255}, 256)
	compareBoth(t, up, numbers(0, 256))
	compareBoth(t, down, last)
	// Once all bytes are moved, the first one of them stands last.
	compareBoth(t, up+up, slices.Concat(numbers(0, 256), last))
	compareBoth(t, down+down, slices.Concat(last, last))
	compareBoth(t, up+down, slices.Concat(numbers(0, 256), numbers(0, 256)))
	compareBoth(t, down+up, slices.Concat(last, numbers(0, 256)))
}

// A byte stands behind as many bytes as are different since it was last moved.
func TestByteComesBack(t *testing.T) {
	for b := range 256 {
		sign := string([]byte{byte(b)})
		for _, all := range []string{sample.Bytes(), falling()} {
			others := without(all, byte(b))
			for _, n := range []int{1, 2, 100, 254, 255} {
				s := sign + others[:n] + sign
				l := thereByDefinition(s)
				if l[0] != b || l[n+1] != n {
					t.Fatalf("thereByDefinition(%q) = %v", s, l)
				}
				compareBoth(t, s, l)
			}
		}
	}
	compareBoth(t, "a"+strings.Repeat("bc", 400)+"a",
		slices.Concat([]int{97, 98, 99}, slices.Repeat([]int{1}, 798), []int{2}))
}

func TestMaxRun(t *testing.T) {
	const n = api.MaxRun
	for _, c := range []struct {
		s string
		l []int
	}{
		{strings.Repeat("\x00", n), make([]int, n)},
		{strings.Repeat("a", n), append([]int{97}, make([]int, n-1)...)},
		{strings.Repeat("a", n-1), append([]int{97}, make([]int, n-2)...)},
		{strings.Repeat("\xff", n), append([]int{255}, make([]int, n-1)...)},
		{strings.Repeat("ab", n/2), slices.Concat([]int{97, 98}, slices.Repeat([]int{1}, n-2))},
		{strings.Repeat("ba", n/2), slices.Concat([]int{98, 98}, slices.Repeat([]int{1}, n-2))},
		{strings.Repeat(falling(), n/256+1)[:n], slices.Repeat([]int{255}, n)},
		{strings.Repeat(falling(), n/256+1)[:n-1], slices.Repeat([]int{255}, n-1)},
		{strings.Repeat(sample.Bytes(), n/256+1)[:n], append(numbers(0, 256), slices.Repeat([]int{255}, n-256)...)},
	} {
		compareBoth(t, c.s, c.l)
	}
	for _, s := range sample.Strings("a\x00\xff", 4)[1:] {
		long := strings.Repeat(s, n)
		for _, s := range []string{long[:n], long[:n-1], long[:n-1] + "\x80", "é" + long[:n-2]} {
			compareBoth(t, s, thereByDefinition(s))
		}
	}
}

func TestAllShortStrings(t *testing.T) {
	for _, s := range slices.Concat(
		sample.Strings("ab", 9), sample.Strings("\x00z\xff", 6), sample.Strings("\x80\xc3\xa9a\x00", 4),
	) {
		compareBoth(t, s, thereByDefinition(s))
	}
}

// Any numbers in range are the code of one string, and any others of none.
func TestAllShortLists(t *testing.T) {
	outside := func(number int) bool { return number < 0 || number > 255 }
	for _, l := range sample.Lists([]int{-1, 0, 1, 2, 97, 254, 255, 256}, 4) {
		if slices.ContainsFunc(l, outside) {
			compareBackError(t, l, api.ErrRange)
			continue
		}
		s, err := Back(l)
		if err != nil {
			t.Fatalf("Back(%v): error %v, want none", l, err)
		}
		if code := thereByDefinition(s); !slices.Equal(code, l) {
			t.Fatalf("Back(%v) = %q, which has the code %v", l, s, code)
		}
		compareThere(t, s, l)
	}
}

// Each number is tried while the list is in increasing order, in decreasing order, and
// after some moves.
func TestEachNumber(t *testing.T) {
	for _, before := range []string{"", sample.Bytes(), falling(), "hello", "\xff\x00\xfe", "日本"} {
		for number := range 256 {
			l := append(thereByDefinition(before), number)
			s, err := Back(l)
			if err != nil {
				t.Fatalf("Back(%v): error %v, want none", l, err)
			}
			if !strings.HasPrefix(s, before) || !slices.Equal(thereByDefinition(s), l) {
				t.Fatalf("Back(%v) = %q", l, s)
			}
		}
	}
}

func TestThereTooLong(t *testing.T) {
	for _, s := range []string{
		strings.Repeat("a", api.MaxRun+1),
		strings.Repeat("a", api.MaxRun) + "b",
		strings.Repeat("ab", api.MaxRun/2) + "a",
		strings.Repeat(sample.Bytes(), 4),
		strings.Repeat("é", api.MaxRun/2+1), // fewer runes than MaxRun, but more bytes
		strings.Repeat("\x00", 100_000),
	} {
		got, err := There(s)
		if !errors.Is(err, api.ErrFull) || len(got) != 0 {
			t.Errorf("There of %d bytes = %v, %v, want nothing, ErrFull", len(s), got, err)
		}
	}
}

func outOfRange() []int {
	return append(sample.Outside(0, 255), 512, api.MaxRun)
}

// A number is wrong at the first, a middle, the last or the only place.
func TestBackOutOfRange(t *testing.T) {
	for _, number := range outOfRange() {
		for _, l := range [][]int{
			{number},
			{number, 0},
			{number, 97, 255},
			{97, number, 255},
			{97, 255, number},
			{number, number, number},
		} {
			compareBackError(t, l, api.ErrRange)
		}
		for _, place := range []int{0, 1, api.MaxRun / 2, api.MaxRun - 2, api.MaxRun - 1} {
			l := slices.Repeat([]int{255}, api.MaxRun)
			l[place] = number
			compareBackError(t, l, api.ErrRange)
		}
	}
}

// Numbers that are out of range, wherever they stand, do not hide the error.
func TestBackTooLong(t *testing.T) {
	for _, n := range []int{api.MaxRun + 1, api.MaxRun + 2, 2 * api.MaxRun, 100_000} {
		compareBackError(t, make([]int, n), api.ErrFull)
		compareBackError(t, slices.Repeat([]int{255}, n), api.ErrFull)
		for _, number := range outOfRange() {
			for _, place := range []int{0, 1, n / 2, api.MaxRun - 1, api.MaxRun, n - 1} {
				l := make([]int, n)
				l[place] = number
				compareBackError(t, l, api.ErrFull)
			}
		}
		compareBackError(t, slices.Repeat([]int{-1}, n), api.ErrFull)
	}
}

// Neither the numbers nor the spare capacity behind them may change.
func TestBackLeavesItsArgument(t *testing.T) {
	for _, all := range [][]int{
		{97, 0, 98, 3, 4},
		{0, 255, 255, 3, 4},
		{97, 256, 98, 3, 4},
		{-1, 0, 98, 3, 4},
	} {
		before := slices.Clone(all)
		first, firstErr := Back(all[:3])
		again, againErr := Back(all[:3])
		if !slices.Equal(all, before) {
			t.Errorf("Back(%v) has changed its argument to %v", before, all)
		}
		if first != again || !errors.Is(againErr, firstErr) {
			t.Errorf("Back(%v) = %q, %v, then %q, %v", all[:3], first, firstErr, again, againErr)
		}
	}
}

// A caller may change the numbers that it was given.
func TestThereSharesNoMemory(t *testing.T) {
	first, _ := There("hello")
	second, _ := There("hello")
	clear(first[:cap(first)])
	want := []int{104, 102, 108, 0, 111}
	if !slices.Equal(second, want) {
		t.Errorf("the numbers have become %v, want %v", second, want)
	}
	compareThere(t, "hello", want)
}

// Each call begins with the bytes in increasing order, also after one that failed.
func TestCallsAreIndependent(t *testing.T) {
	compareBoth(t, falling(), slices.Repeat([]int{255}, 256))
	compareBoth(t, "ab", []int{97, 98})
	compareBackError(t, []int{255, 255, 256}, api.ErrRange)
	compareBoth(t, "\xff", []int{255})
}
