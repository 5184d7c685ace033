package impl

import (
	"iter"
	"slices"
)

// MaxBases is the maximum number of bases, and MaxNumber is the greatest number.
const (
	MaxBases  = 5
	MaxNumber = 999999
)

// BasesOk reports whether there are 1..MaxBases bases, the first one 1, each next one greater, and at most MaxNumber.
func BasesOk(b []int) bool {
	if len(b) < 1 || len(b) > MaxBases || b[0] != 1 {
		return false
	}
	for i, base := range b[1:] {
		if base <= b[i] || base > MaxNumber {
			return false
		}
	}
	return true
}

// CountsOf returns how often each base (BasesOk) is taken of a number, in 0..MaxNumber, the first base first: from the greatest base on, each as often as may be of what is left; nil for others.
func CountsOf(b []int, n int) []int {
	if !BasesOk(b) || n < 0 || n > MaxNumber {
		return nil
	}
	counts := make([]int, len(b))
	for i, count := range takenDown(b, n) {
		counts[i] = count
	}
	return counts
}

// takenDown yields the place of each base and how often it is taken of a number, from the greatest base on.
func takenDown(b []int, n int) iter.Seq2[int, int] {
	return func(yield func(int, int) bool) {
		// A copy, so that ranging over the same function again starts with the whole number.
		left := n
		for i, base := range slices.Backward(b) {
			count, rest := left/base, left%base
			if !yield(i, count) {
				return
			}
			left = rest
		}
	}
}

// SumOf returns the sum of all bases (BasesOk), each times its count, for as many counts as bases, each in 0..MaxNumber, if that is at most MaxNumber, and true; -1 and false for others.
func SumOf(b []int, counts []int) (int, bool) {
	if !BasesOk(b) || len(counts) != len(b) {
		return -1, false
	}
	sum := 0
	for i, count := range counts {
		// Dividing what is left up to MaxNumber, instead of multiplying, cannot overflow; as no base
		// is below 1, it refuses counts above MaxNumber as well.
		if count < 0 || count > (MaxNumber-sum)/b[i] {
			return -1, false
		}
		sum += b[i] * count
	}
	return sum, true
}

// GreedyOk reports whether counts (SumOf) are those of their sum (CountsOf): whether for each base but the greatest one all lesser ones, and it, are together less than the next one; false for others.
func GreedyOk(b []int, counts []int) bool {
	if _, ok := SumOf(b, counts); !ok {
		return false
	}
	together := 0
	for i, next := range b[1:] {
		together += b[i] * counts[i]
		if together >= next {
			return false
		}
	}
	return true
}

// NestedOk reports whether each base (BasesOk) divides the next one; false for others.
func NestedOk(b []int) bool {
	if !BasesOk(b) {
		return false
	}
	for i, next := range b[1:] {
		if next%b[i] != 0 {
			return false
		}
	}
	return true
}
