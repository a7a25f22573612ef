package sample

import (
	"math"
	"slices"
	"strings"
	"testing"

	"letterbeck/api"
)

func TestLists(t *testing.T) {
	for _, c := range []struct {
		elements []string
		n        int
		want     [][]string
	}{
		{nil, 2, [][]string{{}}},
		{[]string{"a", ""}, -1, [][]string{{}}},
		{[]string{"a", ""}, 0, [][]string{{}}},
		{[]string{"a", ""}, 1, [][]string{{}, {"a"}, {""}}},
		{[]string{"a", ""}, 2, [][]string{{}, {"a"}, {""}, {"a", "a"}, {"a", ""}, {"", "a"}, {"", ""}}},
	} {
		if got := Lists(c.elements, c.n); !slices.EqualFunc(got, c.want, slices.Equal) {
			t.Errorf("Lists(%q, %d) = %q, want %q", c.elements, c.n, got, c.want)
		}
	}
	if got := len(Lists([]int{1, 2, 3}, 5)); got != 1+3+9+27+81+243 {
		t.Errorf("%d lists of at most 5 of 3 elements", got)
	}
}

// A test may change a list that it was given.
func TestListsShareNoMemory(t *testing.T) {
	got := Lists([]int{1, 2}, 3)
	want := Lists([]int{1, 2}, 3)
	for i, list := range got {
		if !slices.Equal(list, want[i]) {
			t.Errorf("list %d has become %v, want %v", i, list, want[i])
		}
		list = append(list, 0)
		clear(list)
	}
}

func TestOrders(t *testing.T) {
	for _, c := range []struct {
		list []string
		want [][]string
	}{
		{nil, [][]string{{}}},
		{[]string{"a"}, [][]string{{"a"}}},
		{[]string{"a", "b"}, [][]string{{"a", "b"}, {"b", "a"}}},
		{[]string{"a", "a"}, [][]string{{"a", "a"}, {"a", "a"}}},
		{[]string{"a", "b", "c"}, [][]string{
			{"a", "b", "c"}, {"b", "a", "c"}, {"b", "c", "a"}, {"a", "c", "b"}, {"c", "a", "b"}, {"c", "b", "a"},
		}},
	} {
		if got := Orders(c.list); !slices.EqualFunc(got, c.want, slices.Equal) {
			t.Errorf("Orders(%q) = %q, want %q", c.list, got, c.want)
		}
	}
	if got := len(Orders([]int{1, 2, 3, 4, 5})); got != 1*2*3*4*5 {
		t.Errorf("%d orders of 5 elements", got)
	}
}

func TestSequence(t *testing.T) {
	for _, c := range []struct {
		first, step, n int
		want           []int
	}{
		{3, 1, 0, nil}, {3, 1, 1, []int{3}}, {0, 1, 3, []int{0, 1, 2}}, {5, -2, 4, []int{5, 3, 1, -1}}, {7, 0, 2, []int{7, 7}},
	} {
		if got := Sequence(c.first, c.step, c.n); !slices.Equal(got, c.want) {
			t.Errorf("Sequence(%d, %d, %d) = %v, want %v", c.first, c.step, c.n, got, c.want)
		}
	}
}

func TestOutside(t *testing.T) {
	for _, c := range [][2]int{{0, 0}, {0, 1}, {1, 12}, {0, 255}, {1, 1_000}} {
		least, greatest := c[0], c[1]
		all := Outside(least, greatest)
		for _, number := range all {
			if number >= least && number <= greatest {
				t.Errorf("%d is not outside %d to %d", number, least, greatest)
			}
		}
		for _, want := range []int{math.MinInt, least - 1, greatest + 1, math.MaxInt} {
			if !slices.Contains(all, want) {
				t.Errorf("outside %d to %d lacks %d", least, greatest, want)
			}
		}
	}
}

func TestReplaced(t *testing.T) {
	l := []int{1, 2, 3}
	var got [][]int
	for replaced := range Replaced(l, []int{-1, 2}) {
		got = append(got, replaced)
		if len(got) == 5 {
			break
		}
	}
	want := [][]int{{-1, 2, 3}, {2, 2, 3}, {1, -1, 3}, {1, 2, 3}, {1, 2, -1}}
	if !slices.EqualFunc(got, want, slices.Equal) || !slices.Equal(l, []int{1, 2, 3}) {
		t.Errorf("Replaced yields %v, want %v, and the list has become %v", got, want, l)
	}
	for replaced := range Replaced(nil, l) {
		t.Errorf("Replaced yields %v, want nothing", replaced)
	}
}

func TestStrings(t *testing.T) {
	for _, c := range []struct {
		alphabet string
		n        int
		want     []string
	}{
		{"", 2, []string{""}},
		{"ab", -1, []string{""}},
		{"ab", 0, []string{""}},
		{"ab", 1, []string{"", "a", "b"}},
		{"\x00\xff", 2, []string{"", "\x00", "\xff", "\x00\x00", "\x00\xff", "\xff\x00", "\xff\xff"}},
	} {
		if got := Strings(c.alphabet, c.n); !slices.Equal(got, c.want) {
			t.Errorf("Strings(%q, %d) = %q, want %q", c.alphabet, c.n, got, c.want)
		}
	}
	if got := len(Strings("abc", 5)); got != 1+3+9+27+81+243 {
		t.Errorf("%d strings of at most 5 bytes over 3", got)
	}
}

func TestBytes(t *testing.T) {
	all := Bytes()
	if len(all) != 256 {
		t.Fatalf("%d bytes, want 256", len(all))
	}
	for i := range len(all) {
		if all[i] != byte(i) {
			t.Errorf("byte %d is %d", i, all[i])
		}
	}
}

func TestIrregular(t *testing.T) {
	for signs := 1; signs <= 256; signs++ {
		s := Irregular(signs, 1_000)
		if len(s) != 1_000 || Irregular(signs, 500) != s[:500] {
			t.Errorf("%d bytes of %d different ones, or not the same ones again", len(s), signs)
		}
		if greatest := slices.Max([]byte(s)); int(greatest) >= signs {
			t.Errorf("byte %d of %d different ones", greatest, signs)
		}
		for period := 1; signs > 1 && period <= 100; period++ {
			if s[period:] == s[:len(s)-period] {
				t.Errorf("%d different bytes have the period %d", signs, period)
			}
		}
	}
	if got := Irregular(2, 0); got != "" {
		t.Errorf("%q has no bytes", got)
	}
}

func TestReversed(t *testing.T) {
	for s, want := range map[string]string{
		"": "", "a": "a", "ab": "ba", "abc": "cba", "\x00a\xff": "\xffa\x00", "é": "\xa9\xc3",
	} {
		if got := Reversed(s); got != want {
			t.Errorf("Reversed(%q) = %q, want %q", s, got, want)
		}
	}
}

func TestRepeated(t *testing.T) {
	for _, c := range []struct {
		sign byte
		n    int
		want string
	}{{'a', 0, ""}, {'a', 1, "a"}, {0, 2, "\x00\x00"}, {255, 3, "\xff\xff\xff"}} {
		if got := Repeated(c.sign, c.n); got != c.want {
			t.Errorf("Repeated(%d, %d) = %q, want %q", c.sign, c.n, got, c.want)
		}
	}
}

func TestTooLong(t *testing.T) {
	for _, most := range []int{2, 3, api.MaxLen, api.MaxMorse} {
		all := TooLong(most)
		for i, s := range all {
			if len(s) <= most || slices.Contains(all[:i], s) {
				t.Errorf("%d bytes, at most %d are not too long, or not for the first time", len(s), most)
			}
		}
		shortest := slices.MinFunc(all, func(s, t string) int { return len(s) - len(t) })
		if len(shortest) != most+1 {
			t.Errorf("at least %d bytes, want one more than %d", len(shortest), most)
		}
	}
}

func TestPairs(t *testing.T) {
	var got []string
	for a, b := range Pairs([]string{"a", "b"}, []string{"x", "", "z"}) {
		got = append(got, a+"-"+b)
		if a == "b" && b == "" {
			break
		}
	}
	want := []string{"a-x", "a-", "a-z", "b-x", "b-"}
	if !slices.Equal(got, want) {
		t.Errorf("Pairs yields %q, want %q", got, want)
	}
	for a, b := range Pairs(nil, want) {
		t.Errorf("Pairs yields %q, %q, want nothing", a, b)
	}
}

func TestLongPairs(t *testing.T) {
	all := LongPairs()
	full := 0
	for _, pair := range all {
		if max(len(pair[0]), len(pair[1])) > api.MaxLen {
			t.Errorf("%d and %d bytes", len(pair[0]), len(pair[1]))
		}
		if len(pair[0]) == api.MaxLen && len(pair[1]) == api.MaxLen {
			full++
		}
	}
	if full < 1_000 {
		t.Errorf("%d of %d pairs of strings of MaxLen bytes", full, len(all))
	}
	irregular := Irregular(2, api.MaxLen)
	for _, want := range [][2]string{
		{Repeated('a', api.MaxLen), Repeated('b', api.MaxLen)},
		{strings.Repeat("ab", api.MaxLen/2), strings.Repeat("ba", api.MaxLen/2)},
		{Repeated('a', api.MaxLen/2), Repeated('a', api.MaxLen-1) + "\x00"},
		{irregular, irregular},
		{irregular, ""},
		{irregular, Reversed(irregular)},
	} {
		if !slices.Contains(all, want) {
			t.Errorf("LongPairs does not have %q", want)
		}
	}
}
