package tests

import (
	"math"
	"slices"
	"testing"
)

// spare and spareWord are what stands in the spare capacity of guarded lists, other and otherWord what is written over lists:
// different from spare ones, so that memory that is shared only in what is spare is found as well.
const (
	spare     = -12321
	other     = -12322
	spareWord = "?spare?"
	otherWord = "?other?"
)

// guarded is a list with spare capacity that remembers what it, and what is behind it, was.
type guarded[T comparable] struct {
	list []T
	was  []T
}

// guard makes a guarded copy of a list, with three times behind in its spare capacity.
func guard[T comparable](list []T, behind T) guarded[T] {
	whole := append(slices.Clone(list), behind, behind, behind)
	return guarded[T]{list: whole[:len(list)], was: slices.Clone(whole)}
}

func (g guarded[T]) check(t *testing.T, what string) {
	t.Helper()
	if now := g.list[:len(g.was)]; !slices.Equal(now, g.was) {
		t.Fatalf("%s: an argument was written into: %v, before %v", what, now, g.was)
	}
}

// scribble overwrites a list with all its spare capacity.
func scribble[T any](list []T, with T) {
	list = list[:cap(list)]
	for i := range list {
		list[i] = with
	}
}

// listsUpTo calls do with every list of at most most elements, each of choice.
func listsUpTo[T any](most int, choice []T, do func([]T)) {
	var grow func(list []T)
	grow = func(list []T) {
		do(slices.Clone(list))
		if len(list) == most {
			return
		}
		for _, x := range choice {
			grow(append(list, x))
		}
	}
	grow(make([]T, 0, most))
}

// ordersOf calls do with every row of words of which none is taken twice.
func ordersOf(words []string, do func([]string)) {
	listsUpTo(len(words), words, func(list []string) {
		if len(slices.Compact(slices.Sorted(slices.Values(list)))) == len(list) {
			do(list)
		}
	})
}

// putEverywhere calls do with a row with a word more at each place, and with that word instead of each of its words.
func putEverywhere(row []string, word string, do func([]string)) {
	for place := range len(row) + 1 {
		do(slices.Insert(slices.Clone(row), place, word))
		if place < len(row) {
			instead := slices.Clone(row)
			instead[place] = word
			do(instead)
		}
	}
}

// changesOf calls do with a row with one word less, more, or another one, or two words beside each other exchanged.
func changesOf(row []string, words []string, do func([]string)) {
	for place := range row {
		do(slices.Delete(slices.Clone(row), place, place+1))
		if place > 0 {
			swapped := slices.Clone(row)
			swapped[place-1], swapped[place] = swapped[place], swapped[place-1]
			do(swapped)
		}
	}
	for _, word := range words {
		putEverywhere(row, word, do)
	}
}

// outside are numbers that are not in 0..999999.
func outside() []int {
	return []int{-1, -2, -10, -999999, 1000000, 1000001, math.MaxInt32, math.MinInt32, math.MaxInt, math.MinInt}
}
