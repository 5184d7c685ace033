package tests

import (
	"math"
	"slices"
	"testing"
)

// spare is what stands in the spare capacity of guarded lists.
const spare = -12321

// guarded is a list with spare capacity that remembers what it, and what is behind it, was.
type guarded struct {
	list []int
	was  []int
}

func guard(list []int) guarded {
	whole := append(slices.Clone(list), spare, spare, spare)
	return guarded{list: whole[:len(list)], was: slices.Clone(whole)}
}

func (g guarded) check(t *testing.T, what string) {
	t.Helper()
	if now := g.list[:len(g.was)]; !slices.Equal(now, g.was) {
		t.Fatalf("%s: an argument was written into: %v, before %v", what, now, g.was)
	}
}

// scribble overwrites a list with all its spare capacity.
func scribble(list []int) {
	list = list[:cap(list)]
	for i := range list {
		list[i] = spare - 1
	}
}

// listsUpTo calls do with every list of at most most numbers, each of choice.
func listsUpTo(most int, choice []int, do func([]int)) {
	var grow func(list []int)
	grow = func(list []int) {
		do(slices.Clone(list))
		if len(list) == most {
			return
		}
		for _, x := range choice {
			grow(append(list, x))
		}
	}
	grow(make([]int, 0, most))
}

// outside are numbers that are not in 0..999999.
func outside() []int {
	return []int{-1, -2, -10, -999999, 1000000, 1000001, math.MaxInt32, math.MinInt32, math.MaxInt, math.MinInt}
}
