package tests

import (
	"math"
	"slices"
	"strings"
	"testing"

	"loop.example/numberwords/impl"
)

// sized is a tongue of words of so many letters, the units first, none of which begins with the first letter of another one.
func sized(bases []int, letters ...int) impl.Tongue {
	words := make([]string, len(letters))
	for i, many := range letters {
		words[i] = string(rune('a'+i)) + strings.Repeat("z", many-1)
	}
	units := len(letters) - len(bases) + 1
	return impl.Tongue{Units: words[:units], Bases: bases, Names: words[units:]}
}

// cuatro is a tongue in which four and six are a ring of two, and five is true to itself.
func cuatro() impl.Tongue {
	return impl.Tongue{
		Units: []string{"uno", "dos", "tres", "cuatro", "cinco", "seis", "siete", "ocho", "nueve"},
		Bases: []int{1, 10, 100, 1000},
		Names: []string{"diez", "cien", "mil"},
	}
}

// gapped is a tongue in which 4 and 9 have no names, but numbers behind them have.
func gapped() impl.Tongue {
	return impl.Tongue{Units: []string{"a"}, Bases: []int{1, 2, 5}, Names: []string{"bb", "ccccc"}}
}

// fourRings is a tongue of one base with rings of one, two, three and two numbers.
func fourRings() impl.Tongue {
	return sized([]int{1}, 1, 3, 2, 5, 6, 4, 8, 7, 4, 8, 3)
}

// longRing is a tongue in which all numbers lead to a ring of fourteen, and none is true to itself.
func longRing() impl.Tongue {
	return sized([]int{1, 2, 3, 6, 20}, 3, 8, 6, 8, 4)
}

// lateTrue is a tongue in which 37 alone is true to itself: its name is that of 20, and of twice 7, and of 2 and 1.
func lateTrue() impl.Tongue {
	return sized([]int{1, 2, 4, 7, 20}, 5, 8, 1, 8, 8)
}

// letteredTongues are tongues with words of many and of few letters, and those of chapter 3.
func letteredTongues() []impl.Tongue {
	return append(namedTongues(),
		cuatro(), gapped(), sized([]int{1}, 2, 1), sized([]int{1}, 2, 3, 4, 5, 6, 7, 8, 1), sized([]int{1}, 8, 8, 8, 8, 8, 8, 8, 8), sized([]int{1}, 3, 1, 4),
		fourRings(), longRing(), lateTrue(), sized([]int{1, 2, 4, 7, 20}, 7, 6, 8, 4, 7), sized([]int{1, 2, 4, 9, 30}, 5, 8, 6, 7, 4),
		sized([]int{1, 3, 9, 81}, 8, 8, 8, 8, 8), sized([]int{1, 2, 4, 16, 256}, 8, 8, 8, 8, 8), sized([]int{1, 2, 3, 6, 20}, 1, 2, 3, 6, 1),
	)
}

// lettersBy counts the letters of the names of all numbers up to one, -1 for none, without taking any number apart:
// from each base on, those of all fewer times than it tells and of all that is less are added to those of the base.
func lettersBy(t impl.Tongue, most int) []int {
	letters := slices.Repeat([]int{-1}, most+1)
	for i, word := range t.Units[:min(len(t.Units), most)] {
		letters[i+1] = len(word)
	}
	for i := 1; i < len(t.Bases); i++ {
		base, next := t.Bases[i], most+1
		if i+1 < len(t.Bases) {
			next = min(next, t.Bases[i+1])
		}
		for times := 1; times < base && times*base < next; times++ {
			head := len(t.Names[i-1])
			if times > 1 && letters[times] < 0 {
				continue
			}
			if times > 1 {
				head += letters[times]
			}
			for left := 0; left < base && times*base+left < next; left++ {
				if left == 0 {
					letters[times*base] = head
				} else if letters[left] > 0 {
					letters[times*base+left] = head + letters[left]
				}
			}
		}
	}
	return letters
}

// walkBy walks from a number on until one comes again that is in the list of those before: it tells the steps up to that one and the ring from it on, or none.
func walkBy(letters []int, n int) (int, []int) {
	var before []int
	for !slices.Contains(before, n) {
		if n < 1 || letters[n] < 0 {
			return -1, nil
		}
		before = append(before, n)
		n = letters[n]
	}
	steps := slices.Index(before, n)
	return steps, before[steps:]
}

// trueBy tells which of the numbers up to one are as many as their letters.
func trueBy(letters []int, most int) []int {
	list := []int{}
	for n := 1; n <= most; n++ {
		if letters[n] == n {
			list = append(list, n)
		}
	}
	return list
}

// leastBy tells the numbers that are the least of a ring to which one of the numbers up to one leads, none if one of these leads to none.
func leastBy(letters []int, most int) []int {
	least := map[int]bool{}
	for n := 1; n <= most; n++ {
		_, ring := walkBy(letters, n)
		if len(ring) == 0 {
			return nil
		}
		least[slices.Min(ring)] = true
	}
	list := []int{}
	for n := range len(letters) {
		if least[n] {
			list = append(list, n)
		}
	}
	return list
}

// checkLetters fails unless the name of a number has so many letters, no fewer than words and not too many for these, or -1 if there is none.
func checkLetters(t *testing.T, tongue impl.Tongue, n int, want int) {
	t.Helper()
	if got := impl.LettersOf(tongue, n); got != want {
		t.Fatalf("%v, %d: LettersOf %d, not %d", tongue, n, got, want)
	}
	words := impl.LongOf(tongue, n)
	if want < 0 {
		if words != -1 {
			t.Fatalf("%v, %d: no letters, but %d words", tongue, n, words)
		}
		return
	}
	if want < words || want > 8*words {
		t.Fatalf("%v, %d: %d letters of %d words", tongue, n, want, words)
	}
	if n <= len(tongue.Units) && want != len(tongue.Units[n-1]) {
		t.Fatalf("%v, %d: %d letters, but the unit is %q", tongue, n, want, tongue.Units[n-1])
	}
}

// checkRing fails unless a number leads to just this ring after so many steps.
func checkRing(t *testing.T, tongue impl.Tongue, n int, steps int, want ...int) {
	t.Helper()
	ring, ok := impl.RingFrom(tongue, n)
	if !ok || !slices.Equal(ring, want) {
		t.Fatalf("%v, %d: RingFrom %v, %v, not %v", tongue, n, ring, ok, want)
	}
	if got, ok := impl.StepsToRing(tongue, n); !ok || got != steps {
		t.Fatalf("%v, %d: StepsToRing %d, %v, not %d", tongue, n, got, ok, steps)
	}
	if (steps == 0) != slices.Contains(ring, n) {
		t.Fatalf("%v, %d: %d steps to the ring %v", tongue, n, steps, ring)
	}
	if steps > 0 {
		if got, ok := impl.StepsToRing(tongue, impl.LettersOf(tongue, n)); !ok || got != steps-1 {
			t.Fatalf("%v, %d: %d steps, but for its letters %d, %v", tongue, n, steps, got, ok)
		}
	}
}

// checkRoundRing fails unless a ring goes round, of different numbers each of which leads to it, begun with that number.
func checkRoundRing(t *testing.T, tongue impl.Tongue, ring []int) {
	t.Helper()
	for i, n := range ring {
		if got := impl.LettersOf(tongue, n); got != ring[(i+1)%len(ring)] || slices.Index(ring, n) != i {
			t.Fatalf("%v: no ring: %v, as %d has %d letters", tongue, ring, n, got)
		}
		checkRing(t, tongue, n, 0, slices.Concat(ring[i:], ring[:i])...)
	}
}

// checkNoRing fails unless a number leads to no ring.
func checkNoRing(t *testing.T, tongue impl.Tongue, n int) {
	t.Helper()
	if ring, ok := impl.RingFrom(tongue, n); ok || len(ring) != 0 {
		t.Fatalf("%v, %d: RingFrom %v, %v, but there is none", tongue, n, ring, ok)
	}
	if steps, ok := impl.StepsToRing(tongue, n); ok || steps != -1 {
		t.Fatalf("%v, %d: StepsToRing %d, %v, but there is no ring", tongue, n, steps, ok)
	}
}

// checkTrue fails unless these are the true ones up to a number, in ascending order, each a ring of its own.
func checkTrue(t *testing.T, tongue impl.Tongue, most int, want ...int) {
	t.Helper()
	list := impl.TrueOnes(tongue, most)
	if !slices.Equal(list, want) {
		t.Fatalf("%v, %d: TrueOnes %v, not %v", tongue, most, list, want)
	}
	for i, n := range list {
		if ring, ok := impl.RingFrom(tongue, n); !ok || len(ring) != 1 || ring[0] != n || i > 0 && n <= list[i-1] {
			t.Fatalf("%v, %d: TrueOnes %v, but the ring of %d is %v", tongue, most, list, n, ring)
		}
	}
}

// checkRings fails unless these are the least numbers of rings up to a number, in ascending order, each of its own ring; and up to one more, if that is told, all of them are.
func checkRings(t *testing.T, tongue impl.Tongue, most int, want ...int) {
	t.Helper()
	list := impl.RingsUpTo(tongue, most)
	if !slices.Equal(list, want) {
		t.Fatalf("%v, %d: RingsUpTo %v, not %v", tongue, most, list, want)
	}
	for i, n := range list {
		if ring, ok := impl.RingFrom(tongue, n); !ok || slices.Min(ring) != n || ring[0] != n || i > 0 && n <= list[i-1] {
			t.Fatalf("%v, %d: RingsUpTo %v, but the ring of %d is %v", tongue, most, list, n, ring)
		}
	}
	if more := impl.RingsUpTo(tongue, most+1); len(more) > 0 {
		for _, n := range list {
			if !slices.Contains(more, n) {
				t.Fatalf("%v: RingsUpTo %d is %v, up to one more %v", tongue, most, list, more)
			}
		}
	}
}

// notTold are numbers up to which neither true ones nor rings are told.
func notTold() []int {
	return append(outside(), 0, 501, 502, 1000, 3000, 99999, 100000)
}

func TestConstantsOfLetters(t *testing.T) {
	if impl.MaxStep != 200 {
		t.Fatal(impl.MaxStep)
	}
}

// Promise 34: letters counted by hand, with noughts, and with bases that are taken once.
func TestLettersOfTens(t *testing.T) {
	for n, want := range map[int]int{
		1: 3, 2: 3, 3: 5, 4: 4, 5: 4, 6: 3, 7: 5, 8: 5, 9: 4,
		10: 3, 11: 6, 13: 8, 19: 7, 20: 6, 21: 9, 33: 13, 77: 13, 99: 11,
		100: 7, 101: 10, 110: 10, 111: 13, 120: 13, 199: 18, 200: 10, 201: 13, 210: 13, 234: 22, 999: 22,
		1000: 8, 1001: 11, 1010: 11, 1100: 15, 1111: 21, 2000: 11, 3333: 38, 9999: 34,
		10000: 11, 10001: 14, 11000: 14, 20000: 14, 21021: 26, 77777: 46, 99000: 19, 99999: 41,
		0: -1, -1: -1, -234: -1, 100000: -1, 999999: -1, math.MinInt: -1, math.MaxInt: -1,
	} {
		checkLetters(t, tens(), n, want)
	}
	for n, want := range map[int]int{1: 3, 4: 6, 10: 4, 14: 10, 44: 16, 444: 26, 555: 23, 1000: 3, 4444: 35, 44444: 45, 100000: -1} {
		checkLetters(t, cuatro(), n, want)
	}
}

// Promise 34: numbers that have no name, and some behind them that have one; what is told of the bases is told of the letters.
func TestLettersOfGaps(t *testing.T) {
	for n, want := range map[int]int{
		9: 4, 99: 11, 100: -1, 101: -1, 555: -1, 999: -1, 1000: 8, 1099: 19, 1100: -1, 1999: -1, 2000: 11, 10000: 11, 10100: -1, 99000: 19, 99099: 30, 99999: -1,
	} {
		checkLetters(t, noughts(), n, want)
	}
	for n, want := range map[int]int{1: 1, 2: 2, 3: 3, 4: -1, 5: 5, 6: 6, 7: 7, 8: 8, 9: -1, 10: 7, 13: 10, 14: -1, 15: 8, 18: 11, 19: -1, 20: -1, 24: -1, 25: -1, 99999: -1} {
		checkLetters(t, gapped(), n, want)
	}
}

// Promise 34: words of one letter are as many as letters, and of words of MaxLetters there are MaxLetters times as many.
func TestLettersOfShortestAndLongestWords(t *testing.T) {
	for _, bases := range [][]int{{1, 4}, {1, 10, 100, 1000}, {1, 2, 4, 16, 256}, {1, 21, 22, 23, 24}, {1, 10, 1000}, {1, 20, 99999, 999999}, {1, 3, 4, 5}} {
		many := bases[1] - 1 + len(bases) - 1
		short, long := sized(bases, slices.Repeat([]int{1}, many)...), sized(bases, slices.Repeat([]int{8}, many)...)
		named := 0
		for n := 1; n <= 99999; n += 1 + n/500 {
			words := impl.LongOf(short, n)
			checkLetters(t, short, n, words)
			if words > 0 {
				checkLetters(t, long, n, 8*words)
				named++
			} else {
				checkLetters(t, long, n, -1)
			}
		}
		if named == 0 {
			t.Fatalf("%v: none is named", bases)
		}
	}
	for _, n := range []int{1, 2, 20} {
		for letters := 1; letters <= 8; letters++ {
			checkLetters(t, sized([]int{1}, slices.Repeat([]int{letters}, n)...), n, letters)
			checkLetters(t, sized([]int{1}, slices.Repeat([]int{letters}, n)...), n+1, -1)
		}
	}
	// Names of as many words as there may be with so many bases: of the greatest one twice as many as of lesser ones, and one more.
	for n, words := range map[int]int{1: 1, 7: 3, 63: 7, 4095: 15} {
		checkLetters(t, sized([]int{1, 3, 8, 64}, 8, 8, 8, 8, 8), n, 8*words)
	}
}

// Promise 34: all numbers of all tongues, against letters that are added from the least on.
func TestLettersOfAllNumbers(t *testing.T) {
	for _, tongue := range letteredTongues() {
		letters := lettersBy(tongue, 99999)
		for n := 1; n <= 99999; n += 1 + n/1000 {
			checkLetters(t, tongue, n, letters[n])
			if spaces := strings.Count(impl.TextOf(tongue, n), " "); letters[n] > 0 && len(impl.TextOf(tongue, n)) != letters[n]+spaces {
				t.Fatalf("%v, %d: %d letters in %q", tongue, n, letters[n], impl.TextOf(tongue, n))
			}
		}
		for n := 99990; n <= 99999; n++ {
			checkLetters(t, tongue, n, letters[n])
		}
		for _, base := range tongue.Bases {
			for _, n := range []int{base - 1, base, base + 1, 2 * base, base*base - 1, base * base} {
				if n >= 1 && n <= 99999 {
					checkLetters(t, tongue, n, letters[n])
				}
			}
		}
	}
}

// Promise 34: the numbers and the tongues that have no names.
func TestNoLetters(t *testing.T) {
	for _, tongue := range letteredTongues() {
		for _, n := range unnamed() {
			checkLetters(t, tongue, n, -1)
		}
	}
	for _, tongue := range wrongTongues() {
		for _, n := range append(unnamed(), 1, 2, 3, 4, 10, 20, 100, 234, 1000, 99999) {
			checkLetters(t, tongue, n, -1)
		}
	}
}

// Promises 35 and 37: rings of one number and of two, told by hand, with numbers of them and numbers that lead to them after one step and after more.
func TestRingsOfTensAndCuatro(t *testing.T) {
	for n, steps := range map[int]int{
		// 99999 has 41 letters, 41 has 10, 10 has 3, 3 has 5, 5 has 4, and so has 4.
		4: 0, 5: 1, 9: 1, 3: 2, 7: 2, 8: 2, 21: 2, 22: 2, 1: 3, 2: 3, 6: 3, 10: 3, 13: 3, 19: 3, 100: 3, 234: 3, 1000: 3, 11: 4, 20: 4, 33: 4, 41: 4, 99: 5, 99999: 5,
	} {
		checkRing(t, tens(), n, steps, 4)
	}
	for n, steps := range map[int]int{5: 0, 7: 1, 9: 1, 101: 2} {
		checkRing(t, cuatro(), n, steps, 5)
	}
	for n, steps := range map[int]int{4: 0, 3: 1, 8: 1, 10: 1, 1: 2, 2: 2, 40: 2, 1000: 2} {
		checkRing(t, cuatro(), n, steps, 4, 6)
	}
	// Others come to the ring at its other number: dos mil and mil uno have 6 letters.
	for n, steps := range map[int]int{6: 0, 2000: 1, 1001: 1} {
		checkRing(t, cuatro(), n, steps, 6, 4)
	}
	checkRoundRing(t, tens(), []int{4})
	checkRoundRing(t, cuatro(), []int{5})
	checkRoundRing(t, cuatro(), []int{4, 6})
}

// Promises 35 and 37: in tongues of one base each number leads to the letters of its unit.
func TestRingsOfUnitsAlone(t *testing.T) {
	for _, c := range []struct {
		letters []int
		n       int
		steps   int
		ring    []int
	}{
		{[]int{1}, 1, 0, []int{1}}, {[]int{1, 1}, 2, 1, []int{1}}, {[]int{2, 2}, 1, 1, []int{2}},
		{[]int{2, 1}, 1, 0, []int{1, 2}}, {[]int{2, 1}, 2, 0, []int{2, 1}},
		{[]int{2, 3, 1}, 1, 0, []int{1, 2, 3}}, {[]int{2, 3, 1}, 2, 0, []int{2, 3, 1}}, {[]int{2, 3, 1}, 3, 0, []int{3, 1, 2}}, {[]int{3, 1, 2}, 1, 0, []int{1, 3, 2}},
		// One comes to a ring at its least number or at another one.
		{[]int{3, 4, 2, 3}, 1, 1, []int{3, 2, 4}}, {[]int{2, 3, 4, 2}, 1, 1, []int{2, 3, 4}}, {[]int{4, 3, 4, 2}, 1, 1, []int{4, 2, 3}},
		{[]int{4, 3, 2, 2}, 1, 2, []int{2, 3}}, {[]int{4, 3, 2, 3}, 1, 2, []int{3, 2}}, {[]int{2, 3, 4, 3}, 1, 2, []int{3, 4}}, {[]int{2, 4, 4, 3}, 1, 2, []int{4, 3}},
		{[]int{2, 3, 4, 4}, 1, 3, []int{4}}, {[]int{2, 3, 4, 5, 4}, 1, 3, []int{4, 5}}, {[]int{2, 3, 4, 5, 6, 7, 6}, 1, 5, []int{6, 7}}, {[]int{2, 3, 4, 5, 6, 7, 3}, 1, 2, []int{3, 4, 5, 6, 7}},
	} {
		tongue := sized([]int{1}, c.letters...)
		checkRing(t, tongue, c.n, c.steps, c.ring...)
		checkRoundRing(t, tongue, c.ring)
	}
	checkRoundRing(t, sized([]int{1}, 2, 3, 4, 5, 6, 7, 8, 1), []int{1, 2, 3, 4, 5, 6, 7, 8})
	checkRoundRing(t, sized([]int{1}, 8, 1, 2, 3, 4, 5, 6, 7), []int{1, 8, 7, 6, 5, 4, 3, 2})
	way := sized([]int{1}, 1, 1, 2, 3, 4, 5, 6, 7, 8, 8, 8, 8, 8, 8, 8, 8, 8, 8, 8, 8)
	for n := 1; n <= 20; n++ {
		checkRing(t, way, n, min(n, 9)-1, 1)
	}
	checkNoRing(t, way, 21)
	for n, ring := range map[int][]int{1: {1}, 2: {2, 3}, 3: {3, 2}, 4: {4, 5, 6}, 5: {5, 6, 4}, 6: {6, 4, 5}, 7: {7, 8}, 8: {8, 7}} {
		checkRing(t, fourRings(), n, 0, ring...)
		checkRoundRing(t, fourRings(), ring)
	}
	checkRing(t, fourRings(), 9, 1, 4, 5, 6)
	checkRing(t, fourRings(), 10, 1, 8, 7)
	checkRing(t, fourRings(), 11, 1, 3, 2)
	checkNoRing(t, fourRings(), 12)
}

// Promises 35 and 37: rings of many numbers and ways of many steps, whose letters are added by hand.
func TestLongRingsAndWays(t *testing.T) {
	ring := []int{16, 25, 18, 14, 24, 13, 19, 17, 30, 21, 7, 11, 22, 12}
	checkRoundRing(t, longRing(), ring)
	// 1 has 3 letters, 3 has 6, 6 has 8, 8 has 16; and 2 has 8.
	for n, steps := range map[int]int{16: 0, 8: 1, 2: 2, 6: 2, 3: 3, 1: 4} {
		checkRing(t, longRing(), n, steps, ring...)
	}
	checkRing(t, longRing(), 5, 1, 14, 24, 13, 19, 17, 30, 21, 7, 11, 22, 12, 16, 25, 18)
	checkRing(t, longRing(), 9, 1, 14, 24, 13, 19, 17, 30, 21, 7, 11, 22, 12, 16, 25, 18)
	way := []int{72, 39, 32, 26, 21, 14, 10, 17, 23, 20, 7, 4, 8, 11, 12, 19, 25, 22, 13, 18}
	for steps := range way {
		checkRing(t, sized([]int{1, 2, 4, 7, 20}, 7, 6, 8, 4, 7), way[len(way)-1-steps], steps, 18)
	}
}

// Promises 35 and 37: numbers without a name, at the beginning, after one step and after many, beside others that lead to a ring.
func TestNoRings(t *testing.T) {
	for n := 1; n <= 9; n++ {
		// 1 has 3 letters, 3 has 4; 7 has 8.
		checkNoRing(t, sized([]int{1}, 3, 1, 4), n)
		checkNoRing(t, sized([]int{1}, 2, 3, 4, 5, 6, 7, 8), n)
		checkNoRing(t, sized([]int{1}, 8, 8, 8, 8, 8, 8, 8), n)
	}
	checkNoRing(t, sized([]int{1}, 2), 1)
	some := sized([]int{1}, 1, 5, 2, 1)
	checkRing(t, some, 1, 0, 1)
	checkRing(t, some, 4, 1, 1)
	for _, n := range []int{2, 3, 5} {
		checkNoRing(t, some, n)
	}
	checkRing(t, sized([]int{1, 2}, 1, 2), 3, 0, 3)
	checkNoRing(t, sized([]int{1, 2}, 1, 2), 4)
	checkRing(t, sized([]int{1, 2}, 2, 2), 1, 1, 2)
	checkNoRing(t, sized([]int{1, 2}, 2, 2), 3)
	// 4 and 9 have no names; 12 and 16 have 9 letters.
	for _, n := range []int{1, 2, 3, 5, 6, 7, 8} {
		checkRing(t, gapped(), n, 0, n)
	}
	for n, steps := range map[int]int{10: 1, 13: 2, 17: 2} {
		checkRing(t, gapped(), n, steps, 7)
	}
	for n, steps := range map[int]int{11: 1, 15: 1, 18: 2} {
		checkRing(t, gapped(), n, steps, 8)
	}
	for _, n := range []int{4, 9, 12, 14, 16, 19, 20, 25, 99999} {
		checkNoRing(t, gapped(), n)
	}
	// 1 has 4 letters and 8 has 9; others lead to a ring of four.
	gap := sized([]int{1, 2, 5}, 4, 2, 3)
	checkRing(t, gap, 2, 0, 2)
	checkRoundRing(t, gap, []int{5, 3, 6, 7})
	checkRing(t, gap, 10, 1, 5, 3, 6, 7)
	for _, n := range []int{1, 4, 8, 9} {
		checkNoRing(t, gap, n)
	}
	for _, n := range []int{100, 555, 999, 1100, 10100} {
		checkNoRing(t, noughts(), n)
	}
	checkRing(t, noughts(), 1000, 3, 4)
}

// Promises 35 and 37: numbers that are not valid, and tongues that are none.
func TestRingsOfWrongArguments(t *testing.T) {
	for _, tongue := range letteredTongues() {
		for _, n := range unnamed() {
			checkNoRing(t, tongue, n)
		}
	}
	for _, tongue := range wrongTongues() {
		for _, n := range append(unnamed(), 1, 2, 3, 4, 10, 20, 100, 234, 1000, 99999) {
			checkNoRing(t, tongue, n)
		}
	}
}

// checkWalks fails unless all numbers up to one lead where a walker who looks back at all numbers comes, and it counts the kinds of ways.
func checkWalks(t *testing.T, tongue impl.Tongue, most int, kinds map[string]int) {
	t.Helper()
	letters := lettersBy(tongue, max(most, 300))
	for n := 1; n <= most; n++ {
		steps, ring := walkBy(letters, n)
		switch {
		case len(ring) == 0 && letters[n] < 0:
			kinds["no name"]++
		case len(ring) == 0:
			kinds["no ring"]++
		case len(ring) == 1:
			kinds["ring of one"]++
		default:
			kinds["ring of more"]++
		}
		if len(ring) == 0 {
			checkNoRing(t, tongue, n)
			continue
		}
		if steps == 0 {
			kinds["within"]++
			checkRoundRing(t, tongue, ring)
		}
		checkRing(t, tongue, n, steps, ring...)
	}
}

// Promises 35 and 37: all numbers of small tongues with words of all lengths, against a walker who looks back at all numbers.
func TestRingsOfManyTongues(t *testing.T) {
	kinds := map[string]int{}
	listsUpTo(4, []int{1, 2, 3, 4, 5, 8}, func(letters []int) {
		for _, bases := range [][]int{{1}, {1, 2}, {1, 2, 3}, {1, 2, 5}, {1, 3, 4}} {
			if units := len(letters) - len(bases) + 1; units > 0 && (len(bases) == 1 || bases[1] == units+1) {
				checkWalks(t, sized(bases, letters...), 12, kinds)
			}
		}
	})
	for _, bases := range [][]int{{1, 2, 4, 16}, {1, 2, 3, 6, 20}, {1, 2, 4, 7, 20}, {1, 2, 5, 6, 7}, {1, 2, 4, 16, 256}} {
		listsUpTo(len(bases), []int{1, 5, 8}, func(letters []int) {
			if len(letters) == len(bases) {
				checkWalks(t, sized(bases, letters...), 40, kinds)
			}
		})
	}
	for _, tongue := range letteredTongues() {
		checkWalks(t, tongue, 130, kinds)
	}
	for _, kind := range []string{"no name", "no ring", "ring of one", "ring of more", "within"} {
		if kinds[kind] < 1000 {
			t.Fatalf("of one kind there are too few numbers: %v", kinds)
		}
	}
}

// Promises 35 and 37: numbers up to the greatest one of all tongues.
func TestRingsOfGreatNumbers(t *testing.T) {
	for _, tongue := range letteredTongues() {
		letters := lettersBy(tongue, 99999)
		for n := 131; n <= 99999; n += 1 + n/50 {
			if steps, ring := walkBy(letters, n); len(ring) > 0 {
				checkRing(t, tongue, n, steps, ring...)
			} else {
				checkNoRing(t, tongue, n)
			}
		}
	}
}

// Promise 36: tongues in which no number is true to itself, one is, and several are; up to that number and one less.
func TestTrueOnes(t *testing.T) {
	for _, most := range []int{1, 2, 3, 4, 5, 10, 99, 399, 400, 499, 500} {
		checkTrue(t, longRing(), most)
		checkTrue(t, sized([]int{1}, 2, 1), most)
		checkTrue(t, sized([]int{1}, 2, 3, 4, 5, 6, 7, 8, 1), most)
		checkTrue(t, sized([]int{1}, 2), most)
		checkTrue(t, sized([]int{1}, 1), most, 1)
		for _, tongue := range []impl.Tongue{tens(), noughts(), hundreds(), pair()} {
			checkTrue(t, tongue, most, []int{4}[:min(most/4, 1)]...)
		}
		checkTrue(t, cuatro(), most, []int{5}[:min(most/5, 1)]...)
		checkTrue(t, sized([]int{1}, 1, 2, 3, 4, 5, 6, 7, 8), most, []int{1, 2, 3, 4, 5, 6, 7, 8}[:min(most, 8)]...)
	}
	for most := 1; most <= 500; most++ {
		checkTrue(t, lateTrue(), most, []int{37}[:min(most/37, 1)]...)
		checkTrue(t, sized([]int{1, 2, 3, 6, 20}, 1, 2, 3, 6, 1), most, []int{1, 2, 3, 4, 5, 6, 7, 8, 9, 10, 11}[:min(most, 11)]...)
	}
	checkTrue(t, fourRings(), 500, 1)
	checkTrue(t, sized([]int{1}, 2, 2, 3, 3, 5, 1, 7), 500, 2, 3, 5, 7)
	checkTrue(t, sized([]int{1}, 2, 2, 3, 3, 5, 1, 7), 6, 2, 3, 5)
	// Numbers without a name are passed over: there are true ones behind them.
	for most, want := range map[int][]int{1: {1}, 3: {1, 2, 3}, 4: {1, 2, 3}, 5: {1, 2, 3, 5}, 7: {1, 2, 3, 5, 6, 7}, 8: {1, 2, 3, 5, 6, 7, 8}, 9: {1, 2, 3, 5, 6, 7, 8}, 500: {1, 2, 3, 5, 6, 7, 8}} {
		checkTrue(t, gapped(), most, want...)
	}
	checkTrue(t, sized([]int{1, 2, 5}, 4, 2, 3), 500, 2)
}

// Promise 38: the least numbers of one ring and of several, in ascending order whatever the order in which one comes to them.
func TestRingsUpTo(t *testing.T) {
	for _, most := range []int{1, 2, 3, 4, 5, 20, 99, 399, 499, 500} {
		checkRings(t, tens(), most, 4)
		checkRings(t, cuatro(), most, []int{4, 5}[:min(1+most/5, 2)]...)
		if most <= 399 {
			checkRings(t, longRing(), most, 7)
		} else {
			checkRings(t, longRing(), most)
		}
		if most <= 99 {
			checkRings(t, noughts(), most, 4)
		} else {
			checkRings(t, noughts(), most)
		}
	}
	checkRings(t, longRing(), 400)
	checkRings(t, noughts(), 100)
	for most, want := range map[int][]int{1: {1}, 2: {1, 2}, 3: {1, 2}, 4: {1, 2, 4}, 6: {1, 2, 4}, 7: {1, 2, 4, 7}, 8: {1, 2, 4, 7}, 11: {1, 2, 4, 7}, 12: nil, 500: nil} {
		checkRings(t, fourRings(), most, want...)
	}
	// 1 leads to a ring of greater numbers, and the next ones to lesser rings.
	for most, want := range map[int][]int{1: {5}, 2: {2, 5}, 3: {2, 3, 5}, 4: {2, 3, 4, 5}, 5: {2, 3, 4, 5}, 6: nil} {
		checkRings(t, sized([]int{1}, 5, 2, 3, 4, 5), most, want...)
	}
	for most, want := range map[int][]int{1: {7}, 2: {6, 7}, 3: {5, 6, 7}, 4: {4, 5, 6, 7}, 8: {4, 5, 6, 7}, 9: nil} {
		checkRings(t, sized([]int{1}, 8, 6, 5, 4, 5, 6, 8, 7), most, want...)
	}
	// The same ring, begun at other numbers of it, is one.
	for most := 1; most <= 3; most++ {
		checkRings(t, sized([]int{1}, 3, 1, 2), most, 1)
		checkRings(t, sized([]int{1}, 2, 3, 1), most, 1)
	}
	checkRings(t, sized([]int{1}, 1, 2, 3, 4, 5, 6, 7, 8), 8, 1, 2, 3, 4, 5, 6, 7, 8)
	// All numbers that are asked have names, but one of them leads to one that has none.
	checkRings(t, sized([]int{1}, 1, 1, 4), 2, 1)
	checkRings(t, sized([]int{1}, 1, 1, 4), 3)
	checkRings(t, sized([]int{1}, 2), 1)
	checkRings(t, gapped(), 3, 1, 2, 3)
	checkRings(t, gapped(), 4)
	checkRings(t, gapped(), 5)
}

// Promises 36 and 38: up to 0, 501 and others, and tongues that are none.
func TestNothingToldUpTo(t *testing.T) {
	for _, tongue := range letteredTongues() {
		for _, most := range notTold() {
			checkTrue(t, tongue, most)
			checkRings(t, tongue, most)
		}
	}
	for _, tongue := range wrongTongues() {
		for _, most := range append(notTold(), 1, 2, 3, 4, 20, 100, 499, 500) {
			checkTrue(t, tongue, most)
			checkRings(t, tongue, most)
		}
	}
}

// Promises 36 and 38: in many tongues, against letters that are added from the least on.
func TestTrueOnesAndRingsOfManyTongues(t *testing.T) {
	trueOnes, rings := map[int]int{}, map[int]int{}
	check := func(tongue impl.Tongue, list ...int) {
		letters := lettersBy(tongue, 500)
		for _, most := range list {
			want := trueBy(letters, most)
			checkTrue(t, tongue, most, want...)
			trueOnes[len(want)]++
			want = leastBy(letters, most)
			checkRings(t, tongue, most, want...)
			rings[len(want)]++
		}
	}
	listsUpTo(5, []int{1, 2, 3, 4, 5}, func(letters []int) {
		if len(letters) > 0 {
			check(sized([]int{1}, letters...), 1, len(letters), len(letters)+1)
		}
	})
	for _, bases := range [][]int{{1, 2, 4, 16}, {1, 2, 3, 6, 20}, {1, 2, 4, 9, 30}, {1, 2, 5}, {1, 3, 9}} {
		many := len(bases) - 2 + bases[1]
		listsUpTo(many, []int{1, 4, 7, 8}, func(letters []int) {
			if len(letters) == many && letters[0] != 7 {
				check(sized(bases, letters...), 5, 30)
			}
		})
	}
	for _, tongue := range letteredTongues() {
		check(tongue, 1, 2, 3, 4, 5, 8, 15, 16, 24, 37, 99, 100, 440, 499, 500)
	}
	for many := range 4 {
		if trueOnes[many] < 100 || rings[many] < 100 {
			t.Fatalf("so many true ones are too few: %v, or so many rings: %v", trueOnes, rings)
		}
	}
}

// No function of the chapter writes into a slice of a tongue, whether it is valid or not.
func TestLettersArgumentsStay(t *testing.T) {
	for _, given := range append(letteredTongues(), wrongTongues()...) {
		g := guardTongue(given)
		for _, n := range append(unnamed(), 1, 2, 3, 4, 5, 20, 99, 100, 234, 500, 501, 1000, 99999) {
			impl.LettersOf(g.tongue(), n)
			g.check(t, "LettersOf")
			impl.RingFrom(g.tongue(), n)
			g.check(t, "RingFrom")
			impl.StepsToRing(g.tongue(), n)
			g.check(t, "StepsToRing")
			impl.TrueOnes(g.tongue(), n)
			g.check(t, "TrueOnes")
			impl.RingsUpTo(g.tongue(), n)
			g.check(t, "RingsUpTo")
		}
	}
}

// What is written into a list, and behind it, is found neither in the tongue nor in other lists.
func TestRingsAreNew(t *testing.T) {
	ringOf := func(tongue impl.Tongue, n int) []int {
		ring, _ := impl.RingFrom(tongue, n)
		return ring
	}
	for _, given := range letteredTongues() {
		for _, list := range []func(impl.Tongue, int) []int{ringOf, impl.TrueOnes, impl.RingsUpTo} {
			for _, n := range []int{1, 2, 3, 4, 5, 8, 24, 99, 500} {
				g := guardTongue(given)
				first := list(g.tongue(), n)
				want := slices.Clone(first)
				second := list(g.tongue(), n)
				ring, trueOnes, rings := ringOf(g.tongue(), n), impl.TrueOnes(g.tongue(), n), impl.RingsUpTo(g.tongue(), n)
				all := slices.Concat(ring, trueOnes, rings)
				scribble(first, other)
				g.check(t, "a list")
				if now := slices.Concat(ring, trueOnes, rings); !slices.Equal(second, want) || !slices.Equal(now, all) {
					t.Fatalf("%v, %d: lists share memory: %v, %v", given, n, second, now)
				}
				if again := list(g.tongue(), n); !slices.Equal(again, want) {
					t.Fatalf("%v, %d: told again %v, not %v", given, n, again, want)
				}
				scribbleTongue(g.tongue())
				if !slices.Equal(second, want) {
					t.Fatalf("%v, %d: a list shares memory with the tongue: %v", given, n, second)
				}
			}
		}
	}
}

// An answer depends on the arguments alone, whatever was asked before: in other tongues the same numbers lead elsewhere.
func TestLettersKeepNoState(t *testing.T) {
	one, two := sized([]int{1}, 2, 3, 1), sized([]int{1}, 3, 2, 4)
	for range 3 {
		checkRing(t, one, 1, 0, 1, 2, 3)
		checkNoRing(t, two, 1)
		checkRing(t, one, 2, 0, 2, 3, 1)
		checkRing(t, two, 2, 0, 2)
		checkNoRing(t, impl.Tongue{}, 2)
		checkRing(t, tens(), 2, 3, 4)
		checkLetters(t, one, 3, 1)
		checkLetters(t, two, 3, 4)
		checkLetters(t, impl.Tongue{}, 3, -1)
		checkTrue(t, one, 3)
		checkTrue(t, two, 3, 2)
		checkTrue(t, tens(), 500, 4)
		checkTrue(t, impl.Tongue{}, 500)
		checkRings(t, one, 3, 1)
		checkRings(t, two, 3)
		checkRings(t, tens(), 3, 4)
		checkRings(t, impl.Tongue{}, 3)
	}
}
