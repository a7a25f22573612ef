// Package sample lists and makes strings, and lists of them, for the tests of the other
// packages.
package sample

import (
	"iter"
	"slices"
)

// Lists returns all lists of at most n of the elements, which may occur repeatedly,
// short lists first, so that the first one is the empty list.
func Lists[E any](elements []E, n int) [][]E {
	all := [][]E{nil}
	begin := 0
	for range n {
		end := len(all)
		for _, list := range all[begin:end] {
			for _, e := range elements {
				all = append(all, slices.Concat(list, []E{e}))
			}
		}
		begin = end
	}
	return all
}

// Strings returns all strings of at most n bytes over the bytes of the alphabet, short
// ones first, so that the first one is the empty string.
func Strings(alphabet string, n int) []string {
	var all []string
	for _, bytes := range Lists([]byte(alphabet), n) {
		all = append(all, string(bytes))
	}
	return all
}

// Bytes returns all bytes in increasing order.
func Bytes() string {
	var all []byte
	for b := range 256 {
		all = append(all, byte(b))
	}
	return string(all)
}

// Irregular returns n bytes without a short period, at most signs different ones from
// byte 0 on.
func Irregular(signs, n int) string {
	number := uint32(signs)
	var s []byte
	for range n {
		number = number*1_664_525 + 1_013_904_223
		s = append(s, byte(int(number>>16)%signs))
	}
	return string(s)
}

// Reversed returns the bytes of s from the last one to the first one.
func Reversed(s string) string {
	bytes := []byte(s)
	slices.Reverse(bytes)
	return string(bytes)
}

// Pairs yields each element of first with each element of second.
func Pairs(first, second []string) iter.Seq2[string, string] {
	return func(yield func(a, b string) bool) {
		for _, a := range first {
			for _, b := range second {
				if !yield(a, b) {
					return
				}
			}
		}
	}
}
