package lempel

import (
	"errors"
	"slices"
	"strings"
	"testing"

	"letterbeck/api"
	"letterbeck/internal/sample"
)

// standsFor returns the string of the piece with this number.
func standsFor(l []api.Piece, number int) string {
	if number == 0 {
		return ""
	}
	piece := l[number-1]
	return standsFor(l, piece.Back) + string([]byte{piece.Sign})
}

// writeByDefinition tries all earlier pieces, without regard to how they extend each other.
func writeByDefinition(s string) []api.Piece {
	var l []api.Piece
	earlier := []string{""}
	for rest := s; len(rest) > 0; {
		best := 0
		for number, e := range earlier {
			if len(e) > len(earlier[best]) && len(e) < len(rest) && rest[:len(e)] == e {
				best = number
			}
		}
		n := len(earlier[best])
		l = append(l, api.Piece{Back: best, Sign: rest[n]})
		earlier = append(earlier, rest[:n+1])
		rest = rest[n+1:]
	}
	return l
}

// readByDefinition follows the numbers of each piece anew, down to the empty string.
func readByDefinition(l []api.Piece) (string, api.Errno) {
	if len(l) > api.MaxRun {
		return "", api.ErrFull
	}
	s := ""
	for i, piece := range l {
		number := i + 1
		if piece.Back != 0 && (piece.Back < 1 || piece.Back >= number) {
			return "", api.ErrRange
		}
		s += standsFor(l, number)
		if len(s) > api.MaxRun {
			return "", api.ErrFull
		}
	}
	return s, api.OK
}

func compareWrite(t *testing.T, s string, want []api.Piece) {
	t.Helper()
	got, err := Write(s)
	if err != nil {
		t.Fatalf("Write(%q): error %v, want none", s, err)
	}
	if !slices.Equal(got, want) {
		t.Fatalf("Write(%q) = %v, want %v", s, got, want)
	}
}

func compareRead(t *testing.T, l []api.Piece, want string) {
	t.Helper()
	got, err := Read(l)
	if err != nil {
		t.Fatalf("Read(%v): error %v, want none", l, err)
	}
	if got != want {
		t.Fatalf("Read(%v) = %q, want %q", l, got, want)
	}
}

func compareReadError(t *testing.T, l []api.Piece, want api.Errno) {
	t.Helper()
	got, err := Read(l)
	if !errors.Is(err, want) || got != "" {
		t.Fatalf("Read(%v) = %.30q, %v, want nothing, %v", l, got, err, want)
	}
}

// compareReadWithDefinition checks the string of l, or its error.
func compareReadWithDefinition(t *testing.T, l []api.Piece) {
	t.Helper()
	want, errno := readByDefinition(l)
	if errno != api.OK {
		compareReadError(t, l, errno)
		return
	}
	compareRead(t, l, want)
}

// compareBoth checks that s has these pieces, and that they lead back to it.
func compareBoth(t *testing.T, s string, l []api.Piece) {
	t.Helper()
	compareWrite(t, s, l)
	compareRead(t, l, s)
}

// list returns pieces with these numbers, each with the byte of signs at its place.
func list(signs string, backs ...int) []api.Piece {
	var l []api.Piece
	for i, back := range backs {
		l = append(l, api.Piece{Back: back, Sign: signs[i]})
	}
	return l
}

// chain returns n pieces, each of which extends the one before it. They have 1, 2, 3 and
// so on bytes.
func chain(n int, sign byte) []api.Piece {
	var l []api.Piece
	for i := range n {
		l = append(l, api.Piece{Back: i, Sign: sign})
	}
	return l
}

// long is the number of pieces of the longest chain of at most MaxRun bytes, and left is
// the number of bytes that it leaves.
const (
	long = 44
	left = api.MaxRun - long*(long+1)/2
)

// single returns n pieces of one byte each.
func single(n int, sign byte) []api.Piece {
	return slices.Repeat([]api.Piece{{Sign: sign}}, n)
}

func TestWrittenOut(t *testing.T) {
	for _, c := range []struct {
		s string
		l []api.Piece
	}{
		{"", nil},
		{"a", list("a", 0)}, // a single byte
		{"\x00", list("\x00", 0)},
		{"\xff", list("\xff", 0)},
		{"aa", list("aa", 0, 0)}, // one byte repeated
		{"aaa", list("aa", 0, 1)},
		{"aaaa", list("aaa", 0, 1, 0)},
		{"aaaaa", list("aaa", 0, 1, 1)},
		{"aaaaaa", list("aaa", 0, 1, 2)},
		{"aaaaaaa", list("aaaa", 0, 1, 2, 0)},
		{"\x00\x00\x00", list("\x00\x00", 0, 1)},
		{"\xff\xff\xff\xff", list("\xff\xff\xff", 0, 1, 0)},
		{"ab", list("ab", 0, 0)}, // bytes that all differ
		{"dcba", list("dcba", 0, 0, 0, 0)},
		{"aab", list("ab", 0, 1)}, // the last piece stands for a new string
		{"abab", list("abb", 0, 0, 1)},
		{"aabb", list("abb", 0, 1, 0)},
		{"aaab", list("aab", 0, 1, 0)},
		{"ababa", list("abba", 0, 0, 1, 0)}, // for the string of an earlier piece
		{"ababab", list("abbb", 0, 0, 1, 1)},
		{"abaab", list("abab", 0, 0, 1, 0)},
		{"banana", list("banna", 0, 0, 0, 2, 0)},
		{"mississippi", list("misisppi", 0, 0, 0, 3, 3, 2, 0, 0)},
		{"aababc", list("abc", 0, 1, 2)}, // a longer and a shorter piece begin the rest
		{"abababab", list("abbab", 0, 0, 1, 3, 0)},
		{"aabab", list("abb", 0, 1, 1)}, // the longer one is the whole rest
		{"aA", list("aA", 0, 0)},        // letters of two cases are two bytes
		{"a\x00a\x00", list("a\x00\x00", 0, 0, 1)},
		{"\x00\xff\x00\xff\x00", list("\x00\xff\xff\x00", 0, 0, 1, 0)},
		{"\xff\xff\xfe", list("\xff\xfe", 0, 1)}, // two invalid bytes are not equal
		{"\x7f\x80\x7f\xff", list("\x7f\x80\xff", 0, 0, 1)},
		{"é", list("\xc3\xa9", 0, 0)}, // of bytes, not of runes
		{"éé", list("\xc3\xa9\xa9", 0, 0, 1)},
		{"日本", list("\xe6\x97\xa5\x9c\xac", 0, 0, 0, 1, 0)},
	} {
		compareBoth(t, c.s, c.l)
	}
}

// Lists that Write does not return.
func TestReadWrittenOut(t *testing.T) {
	for _, c := range []struct {
		l []api.Piece
		s string
	}{
		{nil, ""},
		{[]api.Piece{}, ""},
		{list("aaa", 0, 0, 0), "aaa"}, // equal strings
		{list("aab", 0, 0, 1), "aaab"},
		{list("aab", 0, 0, 2), "aaab"},
		{list("abbc", 0, 1, 1, 3), "aabababc"},
		{list("abba", 0, 0, 1, 1), "ababaa"},
		{list("abc", 0, 1, 1), "aabac"}, // all numbers of earlier pieces
		{list("abcd", 0, 0, 0, 0), "abcd"},
		{list("abcd", 0, 0, 0, 1), "abcad"},
		{list("abcd", 0, 0, 0, 2), "abcbd"},
		{list("abcd", 0, 0, 0, 3), "abccd"},
		{list("abcd", 0, 1, 2, 3), "aababcabcd"},
		{list("\x00\xff\x00", 0, 1, 2), "\x00\x00\xff\x00\xff\x00"},
		{list("\xc3\xa9", 0, 1), "\xc3é"}, // of bytes, not of runes
	} {
		compareRead(t, c.l, c.s)
	}
}

func TestEachByte(t *testing.T) {
	for b := range 256 {
		sign, other := byte(b), byte(b+1)
		compareBoth(t, string([]byte{sign}), []api.Piece{{Sign: sign}})
		compareBoth(t, string([]byte{sign, sign, other, sign}),
			[]api.Piece{{Sign: sign}, {Back: 1, Sign: other}, {Sign: sign}})
	}
}

func TestAllBytes(t *testing.T) {
	var l []api.Piece
	for b := range 256 {
		l = append(l, api.Piece{Sign: byte(b)})
	}
	compareBoth(t, sample.Bytes(), l)
	for b := 0; b < 256; b += 2 { // the piece of byte b has the number b+1
		l = append(l, api.Piece{Back: b + 1, Sign: byte(b + 1)})
	}
	compareBoth(t, sample.Bytes()+sample.Bytes(), l)
}

// The pieces of a repeated byte have 1, 2, 3 and so on bytes, and the last one has those
// that are left.
func TestOneByteRepeated(t *testing.T) {
	for _, sign := range []byte{0, 'a', 0x80, 255} {
		for n := range api.MaxRun + 1 {
			var l []api.Piece
			for rest := n; rest > 0; {
				back := min(len(l), rest-1)
				l = append(l, api.Piece{Back: back, Sign: sign})
				rest -= back + 1
			}
			compareBoth(t, strings.Repeat(string([]byte{sign}), n), l)
		}
	}
}

func TestAllShortStrings(t *testing.T) {
	for _, s := range slices.Concat(
		sample.Strings("ab", 13), sample.Strings("\x00z\xff", 8), sample.Strings("\x80\xc3\xa9a", 6),
	) {
		compareBoth(t, s, writeByDefinition(s))
	}
}

func TestMaxRun(t *testing.T) {
	const n = api.MaxRun
	for _, s := range sample.Strings("a\x00\xff", 5)[1:] {
		whole := strings.Repeat(s, n)
		for _, s := range []string{whole[:n], whole[:n-1], whole[:n-1] + "\x80", "é" + whole[:n-2]} {
			compareBoth(t, s, writeByDefinition(s))
		}
	}
	all := strings.Repeat(sample.Bytes(), n/256+1)[:n]
	compareBoth(t, all, writeByDefinition(all))
}

// Strings without a short period, over 2 to 256 different bytes.
func TestIrregularStrings(t *testing.T) {
	for signs := 2; signs <= 256; signs++ {
		s := sample.Irregular(signs, api.MaxRun)
		for _, n := range []int{api.MaxRun, api.MaxRun - 1, api.MaxRun / 2} {
			compareBoth(t, s[:n], writeByDefinition(s[:n]))
		}
	}
}

// All lists of a few pieces, of which some are out of range.
func TestAllShortLists(t *testing.T) {
	var elements []api.Piece
	for back := -1; back <= 4; back++ {
		elements = append(elements, api.Piece{Back: back}, api.Piece{Back: back, Sign: 'a'})
	}
	for _, l := range sample.Lists(elements, 4) {
		compareReadWithDefinition(t, l)
	}
}

// All lists of a few pieces behind others that leave room for a few bytes.
func TestAllShortListsAtMaxRun(t *testing.T) {
	var elements []api.Piece
	for _, back := range []int{-1, 0, 1, left - 2, left - 1, left, long, long + 1, long + 2, long + 3} {
		elements = append(elements, api.Piece{Back: back, Sign: 'b'})
	}
	for _, l := range sample.Lists(elements, 3) {
		compareReadWithDefinition(t, slices.Concat(chain(long, 'a'), l))
	}
}

func TestReadMaxRunBytes(t *testing.T) {
	for _, sign := range []byte{0, 'a', 255} {
		whole := strings.Repeat(string([]byte{sign}), api.MaxRun)
		for n, l := range map[int][]api.Piece{
			api.MaxRun - 1:    single(api.MaxRun-1, sign),
			api.MaxRun:        single(api.MaxRun, sign), // as many pieces as there may be
			api.MaxRun - left: chain(long, sign),
		} {
			compareRead(t, l, whole[:n])
		}
		for _, l := range [][]api.Piece{
			append(chain(long, sign), api.Piece{Back: left - 1, Sign: sign}),
			append(chain(long, sign), single(left, sign)...),
			append(single(api.MaxRun-2, sign), api.Piece{Back: 1, Sign: sign}),
			append(single(api.MaxRun-2, sign), api.Piece{Back: api.MaxRun - 2, Sign: sign}),
		} {
			compareRead(t, l, whole)
		}
	}
}

// Each number of an earlier piece is followed from each place.
func TestReadEachNumber(t *testing.T) {
	signs := sample.Bytes()
	for n := range 256 {
		l := list(signs[:n], make([]int, n)...)
		for back := range n + 1 {
			want := signs[:n] + signs[max(back-1, 0):back] + "!"
			compareRead(t, slices.Concat(l, list("!", back)), want)
		}
	}
}

func TestWriteTooLong(t *testing.T) {
	for _, s := range []string{
		strings.Repeat("a", api.MaxRun+1),
		strings.Repeat("a", api.MaxRun) + "b",
		strings.Repeat("ab", api.MaxRun/2) + "a",
		strings.Repeat("é", api.MaxRun/2+1), // fewer runes than MaxRun, but more bytes
		strings.Repeat(sample.Bytes(), 4),
		strings.Repeat("\x00", 100_000),
	} {
		got, err := Write(s)
		if !errors.Is(err, api.ErrFull) || len(got) != 0 {
			t.Errorf("Write of %d bytes = %v, %v, want nothing, ErrFull", len(s), got, err)
		}
	}
}

// The number of a piece is wrong at the first, a middle, the last or the only place.
func TestReadOutOfRange(t *testing.T) {
	for _, n := range []int{1, 2, 3, 10, api.MaxRun - 1, api.MaxRun} {
		for _, place := range []int{0, n / 2, n - 1} {
			l := single(n, 'a')
			for _, back := range append(sample.Outside(0, api.MaxRun), place+1, place+2, api.MaxRun) {
				l[place].Back = back
				compareReadError(t, l, api.ErrRange)
			}
		}
		compareReadError(t, slices.Repeat([]api.Piece{{Back: -1}}, n), api.ErrRange)
	}
}

// A number is checked before the bytes of its piece, and after those of the pieces
// ahead of it.
func TestReadOutOfRangeAtMaxRun(t *testing.T) {
	const n = api.MaxRun
	full := append(chain(long, 'a'), api.Piece{Back: left - 1, Sign: 'a'})
	most := append(single(n-2, 'a'), api.Piece{Back: 1, Sign: 'a'})
	for _, ahead := range [][]api.Piece{full, most} {
		for _, back := range append(sample.Outside(0, api.MaxRun), len(ahead)+1, len(ahead)+2) {
			wrong := api.Piece{Back: back, Sign: 'a'}
			compareReadError(t, slices.Concat(ahead, []api.Piece{wrong}), api.ErrRange)
			compareReadError(t, slices.Concat(chain(long, 'a'), []api.Piece{wrong, {Back: long}}), api.ErrRange)
			compareReadError(t, slices.Concat(chain(long+1, 'a'), []api.Piece{wrong}), api.ErrFull)
			compareReadError(t, slices.Concat(full, []api.Piece{{}, wrong}), api.ErrFull)
		}
	}
}

func TestReadTooLong(t *testing.T) {
	const n = api.MaxRun
	for _, l := range [][]api.Piece{
		chain(long+1, 'a'),
		chain(long+2, 'a'),
		chain(n, 'a'),
		append(chain(long, 'a'), api.Piece{Back: left, Sign: 'a'}), // by a single byte
		append(chain(long, 'a'), single(left+1, 'a')...),
		append(single(n-1, 'a'), api.Piece{Back: 1, Sign: 'a'}), // at the last place
		append(single(n-1, 'a'), api.Piece{Back: n - 1, Sign: 'a'}),
		append(chain(2, 'a'), single(n-2, 'a')...),
	} {
		compareReadError(t, l, api.ErrFull)
	}
}

// Numbers that are out of range, wherever they stand, do not hide the error.
func TestReadTooManyPieces(t *testing.T) {
	for _, n := range []int{api.MaxRun + 1, api.MaxRun + 2, 2 * api.MaxRun, 100_000} {
		compareReadError(t, single(n, 'a'), api.ErrFull)
		compareReadError(t, chain(n, 'a'), api.ErrFull)
		for _, place := range []int{0, 1, n / 2, api.MaxRun - 1, api.MaxRun, n - 1} {
			for _, back := range append(sample.Outside(0, api.MaxRun), place+1, place+2) {
				l := single(n, 'a')
				l[place].Back = back
				compareReadError(t, l, api.ErrFull)
			}
		}
	}
}

// Neither the pieces nor the spare capacity behind them may change.
func TestReadLeavesItsArgument(t *testing.T) {
	for _, all := range [][]api.Piece{
		list("abcd", 0, 1, 3, 4),
		list("abcd", 0, 2, 3, 4),
		list("abcd", -1, 1, 3, 4),
		chain(long+5, 'a'),
		chain(api.MaxRun+5, 'a'),
	} {
		before := slices.Clone(all)
		some := all[:len(all)-2]
		first, firstErr := Read(some)
		again, againErr := Read(some)
		if !slices.Equal(all, before) {
			t.Errorf("Read(%v) has changed its argument to %v", before, all)
		}
		if first != again || !errors.Is(againErr, firstErr) {
			t.Errorf("Read(%v) = %q, %v, then %q, %v", some, first, firstErr, again, againErr)
		}
	}
}

// A caller may change the pieces that it was given.
func TestWriteSharesNoMemory(t *testing.T) {
	want := list("abc", 0, 1, 2)
	first, _ := Write("aababc")
	second, _ := Write("aababc")
	clear(first[:cap(first)])
	if !slices.Equal(second, want) {
		t.Errorf("the pieces have become %v, want %v", second, want)
	}
	compareWrite(t, "aababc", want)
}

// Each call begins with no pieces, also after one that failed.
func TestCallsAreIndependent(t *testing.T) {
	compareBoth(t, "abab", list("abb", 0, 0, 1))
	compareReadError(t, list("abc", 0, 1, 4), api.ErrRange)
	compareReadError(t, list("a", 1), api.ErrRange)
	compareBoth(t, "ab", list("ab", 0, 0))
}
