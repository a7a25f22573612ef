// Package sample lists strings for the tests of the other packages.
package sample

import "iter"

// Strings returns all strings of at most n bytes over the bytes of the alphabet, short
// ones first, so that the first one is the empty string.
func Strings(alphabet string, n int) []string {
	all := []string{""}
	begin := 0
	for range n {
		end := len(all)
		for _, s := range all[begin:end] {
			for i := range len(alphabet) {
				all = append(all, s+alphabet[i:i+1])
			}
		}
		begin = end
	}
	return all
}

// Pairs yields each element of first with each element of second.
func Pairs(first, second []string) iter.Seq2[string, string] {
	return func(yield func(a, b string) bool) {
		for _, a := range first {
			for _, b := range second {
				if !yield(a, b) {
					return
				}
			}
		}
	}
}
