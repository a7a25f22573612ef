// Package edges computes the borders of strings.
package edges

import (
	"slices"

	"letterbeck/api"
)

// Of returns, for each nonempty prefix of s, the length of its longest border.
func Of(s string) ([]int, error) {
	if len(s) > api.MaxLen {
		return nil, api.ErrFull
	}
	longest := make([]int, len(s))
	for i := 1; i < len(s); i++ {
		longest[i] = borderEndingAt(s, longest, i)
	}
	return longest, nil
}

// borderEndingAt returns the length of the longest border of s[:i+1], for i from 1 on.
// It needs the values of longest before i only: without its last byte, a nonempty
// border of s[:i+1] is a border of s[:i], and all of these are chained in longest.
func borderEndingAt(s string, longest []int, i int) int {
	long := longest[i-1]
	for long > 0 && s[long] != s[i] {
		long = longest[long-1]
	}
	if s[long] == s[i] {
		long++
	}
	return long
}

// All returns the lengths of all nonempty borders of s in increasing order.
func All(s string) ([]int, error) {
	longest, err := Of(s)
	if err != nil {
		return nil, err
	}
	if len(s) == 0 {
		return nil, nil
	}
	var lengths []int
	for long := longest[len(s)-1]; long > 0; long = longest[long-1] {
		lengths = append(lengths, long)
	}
	// The chain leads from the longest border to the shortest one.
	slices.Reverse(lengths)
	return lengths, nil
}
