package sample

import (
	"slices"
	"testing"
)

func TestStrings(t *testing.T) {
	for _, c := range []struct {
		alphabet string
		n        int
		want     []string
	}{
		{"", 2, []string{""}},
		{"ab", -1, []string{""}},
		{"ab", 0, []string{""}},
		{"ab", 1, []string{"", "a", "b"}},
		{"\x00\xff", 2, []string{"", "\x00", "\xff", "\x00\x00", "\x00\xff", "\xff\x00", "\xff\xff"}},
	} {
		if got := Strings(c.alphabet, c.n); !slices.Equal(got, c.want) {
			t.Errorf("Strings(%q, %d) = %q, want %q", c.alphabet, c.n, got, c.want)
		}
	}
	if got := len(Strings("abc", 5)); got != 1+3+9+27+81+243 {
		t.Errorf("%d strings of at most 5 bytes over 3", got)
	}
}

func TestPairs(t *testing.T) {
	var got []string
	for a, b := range Pairs([]string{"a", "b"}, []string{"x", "", "z"}) {
		got = append(got, a+"-"+b)
		if a == "b" && b == "" {
			break
		}
	}
	want := []string{"a-x", "a-", "a-z", "b-x", "b-"}
	if !slices.Equal(got, want) {
		t.Errorf("Pairs yields %q, want %q", got, want)
	}
	for a, b := range Pairs(nil, want) {
		t.Errorf("Pairs yields %q, %q, want nothing", a, b)
	}
}
