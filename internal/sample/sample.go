// Package sample lists and makes strings, numbers, and lists of them, for the tests of the
// other packages.
package sample

import (
	"iter"
	"math"
	"slices"
	"strings"

	"letterbeck/api"
)

// Lists returns all lists of at most n of the elements, which may occur repeatedly,
// short lists first, so that the first one is the empty list.
func Lists[E any](elements []E, n int) [][]E {
	all := [][]E{nil}
	begin := 0
	for range n {
		end := len(all)
		for _, list := range all[begin:end] {
			for _, e := range elements {
				all = append(all, slices.Concat(list, []E{e}))
			}
		}
		begin = end
	}
	return all
}

// Orders returns the elements of the list in all orders.
func Orders[E any](list []E) [][]E {
	if len(list) == 0 {
		return [][]E{nil}
	}
	var all [][]E
	for _, rest := range Orders(list[1:]) {
		for i := range len(list) {
			all = append(all, slices.Concat(rest[:i], list[:1], rest[i:]))
		}
	}
	return all
}

// Sequence returns n numbers from first on, each larger than the one before by step.
func Sequence(first, step, n int) []int {
	var l []int
	for i := range n {
		l = append(l, first+i*step)
	}
	return l
}

// Outside returns numbers that are smaller than least or greater than greatest.
func Outside(least, greatest int) []int {
	return []int{
		math.MinInt, math.MinInt + 1, -1 << 32, math.MinInt32, least - greatest - 1, least - 2, least - 1,
		greatest + 1, greatest + 2, 2*greatest + 1, math.MaxInt32, 1 << 32, 1<<32 + 1, math.MaxInt - 1, math.MaxInt,
	}
}

// Replaced yields the list with each of the numbers in each place of one of its own.
func Replaced(l, numbers []int) iter.Seq[[]int] {
	return func(yield func([]int) bool) {
		for i := range l {
			for _, number := range numbers {
				if !yield(slices.Concat(l[:i], []int{number}, l[i+1:])) {
					return
				}
			}
		}
	}
}

// Strings returns all strings of at most n bytes over the bytes of the alphabet, short
// ones first, so that the first one is the empty string.
func Strings(alphabet string, n int) []string {
	var all []string
	for _, bytes := range Lists([]byte(alphabet), n) {
		all = append(all, string(bytes))
	}
	return all
}

// Bytes returns all bytes in increasing order.
func Bytes() string {
	var all []byte
	for b := range 256 {
		all = append(all, byte(b))
	}
	return string(all)
}

// Irregular returns n bytes without a short period, at most signs different ones from
// byte 0 on.
func Irregular(signs, n int) string {
	number := uint32(signs)
	var s []byte
	for range n {
		number = number*1_664_525 + 1_013_904_223
		s = append(s, byte(int(number>>16)%signs))
	}
	return string(s)
}

// Reversed returns the bytes of s from the last one to the first one.
func Reversed(s string) string {
	bytes := []byte(s)
	slices.Reverse(bytes)
	return string(bytes)
}

// Repeated returns a string of n bytes, each of which is sign.
func Repeated(sign byte, n int) string {
	return strings.Repeat(string([]byte{sign}), n)
}

// TooLong returns strings of more than most bytes.
func TooLong(most int) []string {
	return []string{
		Repeated('a', most+1),
		Repeated('a', most) + "b",
		strings.Repeat("ab", most),
		strings.Repeat("é", most/2+1), // fewer runes than most, but more bytes
		Repeated(0, most+1),
		Repeated(255, most+1),
		Repeated(0, 100_000),
	}
}

// Pairs yields each element of first with each element of second.
func Pairs(first, second []string) iter.Seq2[string, string] {
	return func(yield func(a, b string) bool) {
		for _, a := range first {
			for _, b := range second {
				if !yield(a, b) {
					return
				}
			}
		}
	}
}

// LongPairs returns pairs of strings of MaxLen bytes, and some of which one string is
// shorter.
func LongPairs() [][2]string {
	return slices.Concat(periodicPairs(), irregularPairs(), reversedPairs())
}

// periodicPairs returns the pairs of strings that repeat a short one, and of some that
// differ from these in one byte or are shorter.
func periodicPairs() [][2]string {
	const n = api.MaxLen
	var all []string
	for _, s := range Strings("ab", 3)[1:] {
		whole := strings.Repeat(s, n)[:n]
		all = append(all, whole, whole[:n-1], whole[:n-1]+"\x00", "\xff"+whole[1:], whole[:n/2])
	}
	var pairs [][2]string
	for a, b := range Pairs(all, all) {
		pairs = append(pairs, [2]string{a, b})
	}
	return pairs
}

func irregularPairs() [][2]string {
	const n = api.MaxLen
	var pairs [][2]string
	for _, signs := range []int{2, 3, 4, 5, 8, 16, 256} {
		s := Irregular(signs, 4*n)
		for from := range 2 * n {
			a, b := s[:n], s[from:from+n]
			pairs = append(pairs, [2]string{a, b}, [2]string{a[:from/2], b}, [2]string{b, a[:from/2]})
		}
	}
	return pairs
}

// reversedPairs returns irregular strings with their reversals.
func reversedPairs() [][2]string {
	var pairs [][2]string
	for signs := 2; signs <= 256; signs++ {
		for _, n := range []int{api.MaxLen, api.MaxLen - 1} {
			s := Irregular(signs, n)
			pairs = append(pairs, [2]string{s, Reversed(s)})
		}
	}
	return pairs
}
