package sample

import (
	"slices"
	"testing"
)

func TestLists(t *testing.T) {
	for _, c := range []struct {
		elements []string
		n        int
		want     [][]string
	}{
		{nil, 2, [][]string{{}}},
		{[]string{"a", ""}, -1, [][]string{{}}},
		{[]string{"a", ""}, 0, [][]string{{}}},
		{[]string{"a", ""}, 1, [][]string{{}, {"a"}, {""}}},
		{[]string{"a", ""}, 2, [][]string{{}, {"a"}, {""}, {"a", "a"}, {"a", ""}, {"", "a"}, {"", ""}}},
	} {
		if got := Lists(c.elements, c.n); !slices.EqualFunc(got, c.want, slices.Equal) {
			t.Errorf("Lists(%q, %d) = %q, want %q", c.elements, c.n, got, c.want)
		}
	}
	if got := len(Lists([]int{1, 2, 3}, 5)); got != 1+3+9+27+81+243 {
		t.Errorf("%d lists of at most 5 of 3 elements", got)
	}
}

// A test may change a list that it was given.
func TestListsShareNoMemory(t *testing.T) {
	got := Lists([]int{1, 2}, 3)
	want := Lists([]int{1, 2}, 3)
	for i, list := range got {
		if !slices.Equal(list, want[i]) {
			t.Errorf("list %d has become %v, want %v", i, list, want[i])
		}
		list = append(list, 0)
		clear(list)
	}
}

func TestStrings(t *testing.T) {
	for _, c := range []struct {
		alphabet string
		n        int
		want     []string
	}{
		{"", 2, []string{""}},
		{"ab", -1, []string{""}},
		{"ab", 0, []string{""}},
		{"ab", 1, []string{"", "a", "b"}},
		{"\x00\xff", 2, []string{"", "\x00", "\xff", "\x00\x00", "\x00\xff", "\xff\x00", "\xff\xff"}},
	} {
		if got := Strings(c.alphabet, c.n); !slices.Equal(got, c.want) {
			t.Errorf("Strings(%q, %d) = %q, want %q", c.alphabet, c.n, got, c.want)
		}
	}
	if got := len(Strings("abc", 5)); got != 1+3+9+27+81+243 {
		t.Errorf("%d strings of at most 5 bytes over 3", got)
	}
}

func TestBytes(t *testing.T) {
	all := Bytes()
	if len(all) != 256 {
		t.Fatalf("%d bytes, want 256", len(all))
	}
	for i := range len(all) {
		if all[i] != byte(i) {
			t.Errorf("byte %d is %d", i, all[i])
		}
	}
}

func TestIrregular(t *testing.T) {
	for signs := 1; signs <= 256; signs++ {
		s := Irregular(signs, 1_000)
		if len(s) != 1_000 || Irregular(signs, 500) != s[:500] {
			t.Errorf("%d bytes of %d different ones, or not the same ones again", len(s), signs)
		}
		if greatest := slices.Max([]byte(s)); int(greatest) >= signs {
			t.Errorf("byte %d of %d different ones", greatest, signs)
		}
		for period := 1; signs > 1 && period <= 100; period++ {
			if s[period:] == s[:len(s)-period] {
				t.Errorf("%d different bytes have the period %d", signs, period)
			}
		}
	}
	if got := Irregular(2, 0); got != "" {
		t.Errorf("%q has no bytes", got)
	}
}

func TestReversed(t *testing.T) {
	for s, want := range map[string]string{
		"": "", "a": "a", "ab": "ba", "abc": "cba", "\x00a\xff": "\xffa\x00", "é": "\xa9\xc3",
	} {
		if got := Reversed(s); got != want {
			t.Errorf("Reversed(%q) = %q, want %q", s, got, want)
		}
	}
}

func TestPairs(t *testing.T) {
	var got []string
	for a, b := range Pairs([]string{"a", "b"}, []string{"x", "", "z"}) {
		got = append(got, a+"-"+b)
		if a == "b" && b == "" {
			break
		}
	}
	want := []string{"a-x", "a-", "a-z", "b-x", "b-"}
	if !slices.Equal(got, want) {
		t.Errorf("Pairs yields %q, want %q", got, want)
	}
	for a, b := range Pairs(nil, want) {
		t.Errorf("Pairs yields %q, %q, want nothing", a, b)
	}
}
