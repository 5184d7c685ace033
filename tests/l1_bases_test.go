package tests

import (
	"math"
	"slices"
	"testing"

	"loop.example/numberwords/impl"
)

// goodBases are bases of each length, some of which do not divide each other, and some as great as may be.
func goodBases() [][]int {
	return [][]int{
		{1}, {1, 2}, {1, 10}, {1, 999999}, {1, 10, 100}, {1, 10, 20}, {1, 10, 25}, {1, 2, 3}, {1, 7, 10},
		{1, 999998, 999999}, {1, 7, 10, 25}, {1, 12, 60, 3600}, {1, 10, 20, 30}, {1, 10, 100, 1000, 10000},
		{1, 2, 3, 4, 5}, {1, 5, 12, 60, 144}, {1, 2, 4, 8, 16}, {1, 20, 400, 8000, 160000},
	}
}

// wrongBases are no bases, each for a reason of its own.
func wrongBases() [][]int {
	return [][]int{
		nil, {}, {0}, {2}, {-1}, {10}, {999999}, {2, 3}, {0, 1}, {-1, 1}, {10, 100}, {2, 4, 8},
		{1, 1}, {1, 5, 5}, {1, 1, 5}, {1, 10, 10, 100}, {1, 2, 3, 4, 4},
		{1, 0}, {1, -10}, {1, 10, 5}, {1, 10, 1}, {1, 10, 100, 50}, {1, 100, 10, 1000}, {1, 2, 3, 4, 3}, {1, 2, 3, 5, 4},
		{1, 1000000}, {1, 10, 1000000}, {1, 2, 3, 4, 1000000}, {1, 1000000, 999999}, {1, math.MaxInt}, {1, math.MinInt},
		{1, 2, 3, 4, 5, 6}, {1, 2, 4, 8, 16, 32}, {1, 2, 3, 4, 5, 6, 7}, {1, 10, 100, 1000, 10000, 100000},
	}
}

// numbersFor are numbers in 0..999999 around all at which the counts of bases turn over, and both ends.
func numbersFor(b []int) []int {
	list := []int{999999, 999998, 999990, 999900, 500000, 123456}
	for n := range 700 {
		list = append(list, n)
	}
	for _, base := range b {
		for _, times := range []int{1, 2, 3, 9, 10, 11, 999, 999999 / base} {
			for n := base*times - 2; n <= base*times+2; n++ {
				if n >= 0 && n <= 999999 {
					list = append(list, n)
				}
			}
		}
	}
	return list
}

// greedyBy tells from the counts and the number alone whether each base is taken as often as may be, from the greatest one on.
func greedyBy(b []int, counts []int, n int) bool {
	if len(counts) != len(b) {
		return false
	}
	left := n
	for i := len(b) - 1; i >= 0; i-- {
		left -= b[i] * counts[i]
		if counts[i] < 0 || left < 0 || left >= b[i] {
			return false
		}
	}
	return left == 0
}

// greaterDown reports whether counts are greater than other ones in the order from the greatest base on.
func greaterDown(more []int, less []int) bool {
	for i := len(more) - 1; i >= 0; i-- {
		if more[i] != less[i] {
			return more[i] > less[i]
		}
	}
	return false
}

func TestConstantsOfBases(t *testing.T) {
	if impl.MaxBases != 5 || impl.MaxNumber != 999999 {
		t.Fatal(impl.MaxBases, impl.MaxNumber)
	}
}

// Promise 1.
func TestBasesOk(t *testing.T) {
	for _, b := range goodBases() {
		if !impl.BasesOk(b) {
			t.Errorf("%v are bases", b)
		}
	}
	for _, b := range wrongBases() {
		if impl.BasesOk(b) {
			t.Errorf("%v are no bases", b)
		}
	}
}

// Promise 1.
func TestBasesWithoutTheLastOne(t *testing.T) {
	if !impl.BasesOk([]int{1}) {
		t.Fatal("1 alone is bases")
	}
	for _, b := range goodBases() {
		for ; len(b) > 1; b = b[:len(b)-1] {
			if !impl.BasesOk(b) || !impl.BasesOk(b[:len(b)-1]) {
				t.Fatalf("%v and, without the last one, %v are bases", b, b[:len(b)-1])
			}
		}
	}
}

// Promise 1: all short lists of small numbers, and what goes wrong at each place of the longest ones.
func TestBasesOkAtEachPlace(t *testing.T) {
	listsUpTo(4, []int{-1, 0, 1, 2, 3, 999999, 1000000}, func(b []int) {
		want := len(b) > 0 && b[0] == 1
		for i := 1; i < len(b); i++ {
			want = want && b[i-1] < b[i] && b[i] <= 999999
		}
		if impl.BasesOk(b) != want {
			t.Fatalf("%v: not %v", b, want)
		}
	})
	for i := range 5 {
		for _, x := range []int{math.MinInt, -1, 0, 1, 10, 100, 1000, 10000, 100000, 1000000, math.MaxInt} {
			b := []int{1, 10, 100, 1000, 10000}
			b[i] = x
			want := x == []int{1, 10, 100, 1000, 10000}[i] || i == 4 && x == 100000
			if impl.BasesOk(b) != want {
				t.Fatalf("%v: not %v", b, want)
			}
		}
	}
}

// Promise 2.
func TestCountsOf(t *testing.T) {
	for _, c := range []struct {
		b    []int
		n    int
		want []int
	}{
		{[]int{1}, 0, []int{0}},
		{[]int{1}, 999999, []int{999999}},
		{[]int{1, 10, 100}, 0, []int{0, 0, 0}},
		{[]int{1, 10, 100}, 1, []int{1, 0, 0}},
		{[]int{1, 10, 100}, 10, []int{0, 1, 0}},
		{[]int{1, 10, 100}, 99, []int{9, 9, 0}},
		{[]int{1, 10, 100}, 1234, []int{4, 3, 12}},
		{[]int{1, 10, 100}, 999999, []int{9, 9, 9999}},
		{[]int{1, 10, 20}, 19, []int{9, 1, 0}},
		{[]int{1, 10, 20}, 20, []int{0, 0, 1}},
		{[]int{1, 10, 20}, 39, []int{9, 1, 1}},
		{[]int{1, 10, 20}, 40, []int{0, 0, 2}},
		{[]int{1, 10, 20}, 999999, []int{9, 1, 49999}},
		{[]int{1, 7, 10, 25}, 49, []int{4, 0, 2, 1}},
		{[]int{1, 7, 10, 25}, 24, []int{4, 0, 2, 0}},
		{[]int{1, 7, 10, 25}, 34, []int{2, 1, 0, 1}},
		{[]int{1, 2, 3, 4, 5}, 999999, []int{0, 0, 0, 1, 199999}},
		{[]int{1, 999999}, 999998, []int{999998, 0}},
		{[]int{1, 999999}, 999999, []int{0, 1}},
		{[]int{1, 999998, 999999}, 999998, []int{0, 1, 0}},
		{[]int{1, 999998, 999999}, 999999, []int{0, 0, 1}},
	} {
		if got := impl.CountsOf(c.b, c.n); !slices.Equal(got, c.want) {
			t.Errorf("%v, %d: %v, not %v", c.b, c.n, got, c.want)
		}
	}
}

// Promise 2.
func TestEachNumberHasItsCounts(t *testing.T) {
	for _, b := range goodBases() {
		for _, n := range numbersFor(b) {
			counts := impl.CountsOf(b, n)
			if !greedyBy(b, counts, n) {
				t.Fatalf("%v, %d: counts %v", b, n, counts)
			}
			if sum, ok := impl.SumOf(b, counts); !ok || sum != n {
				t.Fatalf("%v, %d: counts %v have the sum %d, %v", b, n, counts, sum, ok)
			}
			if !impl.GreedyOk(b, counts) {
				t.Fatalf("%v, %d: counts %v may be", b, n, counts)
			}
			more := impl.CountsOf(b, n+1)
			if n == 999999 {
				if len(more) != 0 {
					t.Fatalf("%v: counts %v above MaxNumber", b, more)
				}
			} else if len(more) != len(b) || !greaterDown(more, counts) {
				t.Fatalf("%v, %d: counts %v, and %v of one more", b, n, counts, more)
			}
		}
	}
}

// Promise 2: the numbers and the bases that have no counts.
func TestNoCounts(t *testing.T) {
	for _, b := range goodBases() {
		for _, n := range outside() {
			if got := impl.CountsOf(b, n); len(got) != 0 {
				t.Errorf("%v, %d: %v", b, n, got)
			}
		}
	}
	for _, b := range wrongBases() {
		for _, n := range append(outside(), 0, 1, 7, 10, 1234, 999999) {
			if got := impl.CountsOf(b, n); len(got) != 0 {
				t.Errorf("%v, %d: %v", b, n, got)
			}
		}
	}
}

// Promise 3.
func TestSumOf(t *testing.T) {
	for _, c := range []struct {
		b      []int
		counts []int
		want   int
	}{
		{[]int{1}, []int{0}, 0},
		{[]int{1}, []int{999999}, 999999},
		{[]int{1, 10, 100}, []int{4, 3, 12}, 1234},
		{[]int{1, 10, 100}, []int{0, 0, 0}, 0},
		{[]int{1, 10, 100}, []int{12, 0, 0}, 12},
		{[]int{1, 10, 100}, []int{0, 12, 0}, 120},
		{[]int{1, 10, 100}, []int{25, 31, 4}, 735},
		{[]int{1, 10, 20}, []int{0, 2, 0}, 20},
		{[]int{1, 10, 20}, []int{9, 1, 1}, 39},
		{[]int{1, 10, 20}, []int{999999, 0, 0}, 999999},
		{[]int{1, 10, 20}, []int{9, 99999, 0}, 999999},
		{[]int{1, 10, 20}, []int{9, 1, 49999}, 999999},
		{[]int{1, 999999}, []int{0, 1}, 999999},
		{[]int{1, 999998, 999999}, []int{1, 1, 0}, 999999},
		{[]int{1, 2, 3, 4, 5}, []int{5, 4, 3, 2, 1}, 35},
	} {
		if got, ok := impl.SumOf(c.b, c.counts); !ok || got != c.want {
			t.Errorf("%v, %v: %d, %v, not %d", c.b, c.counts, got, ok, c.want)
		}
	}
}

// Promise 3.
func TestOneMoreOfTheFirstBaseIsOneMore(t *testing.T) {
	for _, b := range goodBases() {
		if sum, ok := impl.SumOf(b, make([]int, len(b))); !ok || sum != 0 {
			t.Fatalf("%v: counts of 0 alone are %d, %v", b, sum, ok)
		}
		listsUpTo(len(b), []int{0, 1, 3, 40}, func(counts []int) {
			if len(counts) != len(b) {
				return
			}
			checkOneMore(t, b, counts)
		})
		checkOneMore(t, b, impl.CountsOf(b, 999998))
		checkOneMore(t, b, impl.CountsOf(b, 999999))
	}
}

func checkOneMore(t *testing.T, b []int, counts []int) {
	t.Helper()
	want := 0
	for i, count := range counts {
		want += b[i] * count
	}
	sum, ok := impl.SumOf(b, counts)
	if want > 999999 {
		if ok || sum != -1 {
			t.Fatalf("%v, %v: %d, %v, but the sum is %d", b, counts, sum, ok, want)
		}
		return
	}
	if !ok || sum != want {
		t.Fatalf("%v, %v: %d, %v, not %d", b, counts, sum, ok, want)
	}
	more := slices.Clone(counts)
	more[0]++
	next, ok := impl.SumOf(b, more)
	if want < 999999 && (!ok || next != want+1) || want == 999999 && (ok || next != -1) {
		t.Fatalf("%v, %v: %d, and with one more of the first base %d, %v", b, counts, sum, next, ok)
	}
}

// refusedCounts are counts that have no sum, with their bases.
func refusedCounts() [][2][]int {
	list := [][2][]int{
		{{1}, nil}, {{1}, {}}, {{1}, {0, 0}}, {{1}, {-1}}, {{1}, {1000000}},
		{{1, 10}, {0}}, {{1, 10}, {0, 0, 0}}, {{1, 10, 100}, nil}, {{1, 10, 100}, {4, 3}}, {{1, 10, 100}, {4, 3, 12, 0}},
		{{1, 10, 100}, {4, 3, 12, 0, 0, 0}}, {{1, 10}, {-1, 1}}, {{1, 10}, {20, -1}}, {{1, 10, 100}, {0, -1, 1}},
		{{1, 10}, {1000000, 0}}, {{1, 10}, {0, 100000}}, {{1, 10}, {10, 99999}}, {{1, 10}, {999999, 1}}, {{1, 10}, {999999, 999999}},
		{{1, 10, 20}, {0, 0, 50000}}, {{1, 10, 20}, {10, 1, 49999}}, {{1, 10, 20}, {0, 2, 49999}}, {{1, 10, 20}, {1000000, 0, 0}},
		{{1, 999999}, {1, 1}}, {{1, 999999}, {0, 2}}, {{1, 999999}, {999999, 999999}}, {{1, 999998, 999999}, {0, 1, 1}},
		{{1, 2, 3, 4, 5}, {999999, 999999, 999999, 999999, 999999}},
		// Products and sums of these come back to numbers from 0 on if they wrap around.
		{{1, 4}, {0, 1 << 62}}, {{1, 4}, {5, 1 << 62}}, {{1, 2, 4, 8, 16}, {3, 0, 0, 0, 1 << 60}}, {{1, 2}, {1, math.MinInt}},
		{{1, 2, 4}, {2, math.MaxInt, 0}}, {{1, 256, 65536}, {7, 0, 1 << 48}}, {{1, 4}, {1 << 62, 1 << 62}},
		{{1, 65536}, {1, 65536}}, {{1, 65536}, {0, 1 << 16}}, {{1, 2, 4}, {math.MaxInt, math.MaxInt, math.MaxInt}},
	}
	for _, x := range outside() {
		list = append(list, [2][]int{{1}, {x}}, [2][]int{{1, 10, 100}, {x, 0, 0}}, [2][]int{{1, 10, 100}, {0, x, 0}}, [2][]int{{1, 10, 100}, {0, 0, x}})
	}
	return list
}

// Promises 3 and 4: what has no sum cannot be greedy either.
func TestRefusedCounts(t *testing.T) {
	for _, c := range refusedCounts() {
		if sum, ok := impl.SumOf(c[0], c[1]); ok || sum != -1 {
			t.Errorf("SumOf %v, %v: %d, %v", c[0], c[1], sum, ok)
		}
		if impl.GreedyOk(c[0], c[1]) {
			t.Errorf("GreedyOk %v, %v", c[0], c[1])
		}
	}
	for _, b := range wrongBases() {
		for _, counts := range [][]int{nil, {0}, {1}, make([]int, len(b)), {1, 1}, {0, 0, 0}, {1, 0, 0, 0, 0, 0}} {
			if sum, ok := impl.SumOf(b, counts); ok || sum != -1 {
				t.Errorf("SumOf %v, %v: %d, %v", b, counts, sum, ok)
			}
			if impl.GreedyOk(b, counts) {
				t.Errorf("GreedyOk %v, %v", b, counts)
			}
		}
	}
}

// Promise 4.
func TestGreedyOk(t *testing.T) {
	for _, c := range []struct {
		b      []int
		counts []int
		want   bool
	}{
		{[]int{1}, []int{0}, true},
		{[]int{1}, []int{999999}, true},
		{[]int{1, 10, 100}, []int{4, 3, 12}, true},
		{[]int{1, 10, 100}, []int{0, 0, 0}, true},
		{[]int{1, 10, 100}, []int{9, 9, 9999}, true},
		{[]int{1, 10, 100}, []int{10, 0, 0}, false},
		{[]int{1, 10, 100}, []int{0, 10, 0}, false},
		{[]int{1, 10, 100}, []int{11, 0, 5}, false},
		{[]int{1, 10, 20}, []int{9, 1, 1}, true},
		{[]int{1, 10, 20}, []int{0, 2, 0}, false},
		{[]int{1, 10, 20}, []int{0, 2, 7}, false},
		{[]int{1, 7, 10}, []int{2, 1, 0}, true},
		{[]int{1, 7, 10}, []int{3, 1, 0}, false}, // each alone is less than the next base, but not both together
		{[]int{1, 7, 10, 25}, []int{4, 0, 2, 1}, true},
		{[]int{1, 7, 10, 25}, []int{5, 0, 2, 1}, false},
		{[]int{1, 7, 10, 25}, []int{6, 0, 1, 1}, true},
	} {
		if impl.GreedyOk(c.b, c.counts) != c.want {
			t.Errorf("%v, %v: not %v", c.b, c.counts, c.want)
		}
	}
}

// Promise 4.
func TestGreedyExactlyIfCountsOfTheSum(t *testing.T) {
	choice := []int{0, 1, 2, 3, 5, 9, 10, 49999}
	for _, b := range goodBases() {
		listsUpTo(len(b), choice, func(counts []int) {
			if len(counts) != len(b) {
				return
			}
			sum, ok := impl.SumOf(b, counts)
			want := ok && slices.Equal(impl.CountsOf(b, sum), counts)
			if impl.GreedyOk(b, counts) != want || ok && greedyBy(b, counts, sum) != want {
				t.Fatalf("%v, %v: not %v", b, counts, want)
			}
		})
	}
}

// Promise 5.
func TestNestedOk(t *testing.T) {
	for _, b := range [][]int{{1}, {1, 2}, {1, 7}, {1, 999999}, {1, 10, 100}, {1, 10, 20}, {1, 12, 60, 3600}, {1, 2, 4, 8, 16}, {1, 10, 100, 1000, 10000}} {
		if !impl.NestedOk(b) {
			t.Errorf("in %v each one divides the next one", b)
		}
	}
	for _, b := range [][]int{{1, 2, 3}, {1, 10, 25}, {1, 10, 20, 30}, {1, 4, 6, 12}, {1, 10, 100, 1000, 10001}, {1, 999998, 999999}, {1, 2, 3, 4, 5}} {
		if impl.NestedOk(b) {
			t.Errorf("in %v not each one divides the next one", b)
		}
	}
	for _, b := range wrongBases() {
		if impl.NestedOk(b) {
			t.Errorf("%v are no bases", b)
		}
	}
}

// Promise 5: all bases of small numbers, against what dividing means.
func TestNestedOkOfSmallBases(t *testing.T) {
	listsUpTo(4, []int{1, 2, 3, 4, 6, 8, 9, 12}, func(b []int) {
		want := impl.BasesOk(b)
		for i := 1; i < len(b); i++ {
			want = want && b[i]/b[i-1]*b[i-1] == b[i]
		}
		if impl.NestedOk(b) != want {
			t.Fatalf("%v: not %v", b, want)
		}
		if want {
			checkBounded(t, b)
		}
	})
}

// Promise 5.
func TestNestedBasesBoundTheCounts(t *testing.T) {
	for _, b := range goodBases() {
		if impl.NestedOk(b) {
			checkBounded(t, b)
		}
	}
}

func checkBounded(t *testing.T, b []int) {
	t.Helper()
	for n := range 301 {
		counts := impl.CountsOf(b, n)
		if len(counts) != len(b) {
			t.Fatalf("%v, %d: counts %v", b, n, counts)
		}
		for i := range len(b) - 1 {
			if counts[i] >= b[i+1]/b[i] {
				t.Fatalf("%v, %d: counts %v", b, n, counts)
			}
		}
	}
}

// No function of the chapter writes into an argument, whether it is valid or not.
func TestBasesArgumentsStay(t *testing.T) {
	for _, list := range append(goodBases(), wrongBases()...) {
		b := guard(list, spare)
		impl.BasesOk(b.list)
		impl.NestedOk(b.list)
		for _, n := range []int{-1, 0, 39, 999999, 1000000} {
			impl.CountsOf(b.list, n)
		}
		b.check(t, "bases")
		for _, given := range [][]int{nil, {0}, make([]int, len(list)), {9, 1, 1}, {12, 40, 3}, {-1, 1000000, 5, 5, 5}, {3, 1, 0, 2, 1, 1}} {
			counts := guard(given, spare)
			impl.SumOf(b.list, counts.list)
			impl.GreedyOk(b.list, counts.list)
			b.check(t, "bases")
			counts.check(t, "counts")
		}
	}
}

// Counts are new memory, also in what is spare of it, and nothing is kept from call to call.
func TestCountsAreNew(t *testing.T) {
	for _, list := range goodBases() {
		b := guard(list, spare)
		first := impl.CountsOf(b.list, 39)
		want := slices.Clone(first)
		second := impl.CountsOf(b.list, 39)
		scribble(first, other)
		b.check(t, "bases")
		if !slices.Equal(second, want) || !slices.Equal(impl.CountsOf(b.list, 39), want) {
			t.Fatalf("%v: counts share memory: %v, not %v", list, second, want)
		}
		scribble(b.list, other)
		if !slices.Equal(second, want) {
			t.Fatalf("%v: counts share memory with the bases: %v, not %v", list, second, want)
		}
	}
}

// An answer depends on the arguments alone, whatever was asked before.
func TestBasesKeepNoState(t *testing.T) {
	b := []int{1, 10, 20}
	for range 3 {
		impl.CountsOf(b, -1)
		impl.SumOf(b, []int{0, 0, 50000})
		impl.BasesOk(nil)
		if got := impl.CountsOf(b, 39); !slices.Equal(got, []int{9, 1, 1}) {
			t.Fatal(got)
		}
		if sum, ok := impl.SumOf(b, []int{9, 1, 1}); !ok || sum != 39 {
			t.Fatal(sum, ok)
		}
		if !impl.GreedyOk(b, []int{9, 1, 1}) || !impl.NestedOk(b) || !impl.BasesOk(b) {
			t.Fatal("not as before")
		}
	}
}
