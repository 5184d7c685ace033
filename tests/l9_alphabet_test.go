package tests

import (
	"math"
	"slices"
	"strings"
	"testing"

	"loop.example/numberwords/impl"
)

// prefixes is a tongue in which names begin others, with a space behind and without: aa is behind all names of more words that begin with a.
func prefixes() impl.Tongue {
	return impl.Tongue{Units: []string{"aa", "b"}, Bases: []int{1, 3}, Names: []string{"a"}}
}

// ordered is a tongue in which the first nine numbers stand at their own places.
func ordered() impl.Tongue {
	return impl.Tongue{Units: []string{"a"}, Bases: []int{1, 2, 3, 4, 5}, Names: []string{"b", "c", "d", "e"}}
}

// orderedTongues are tongues in which names begin others in many ways, and those of chapter 8.
func orderedTongues() []impl.Tongue {
	return append(letteredTongues(),
		prefixes(), ordered(),
		impl.Tongue{Units: []string{"aa", "a", "aaa"}, Bases: []int{1, 4, 16}, Names: []string{"aaaa", "aaaaa"}},
		impl.Tongue{Units: []string{"z", "zz", "za", "a", "az"}, Bases: []int{1, 6, 36, 216}, Names: []string{"zzz", "aza", "zaz"}},
		impl.Tongue{Units: numbered("z", 12), Bases: []int{1, 13}, Names: []string{"z"}},
		impl.Tongue{Units: numbered("a", 11), Bases: []int{1, 12, 144}, Names: []string{"zzzzzzzz", "a"}},
		unitsAlone("t", "s", "r", "q", "p", "o", "n", "m", "l", "k", "j", "i", "h", "g", "f", "e", "d", "c", "b", "a"),
	)
}

// ahead tells letter by letter whether a text is before another one: where both are alike, what is behind tells.
func ahead(text string, than string) bool {
	for text != "" && than != "" && text[0] == than[0] {
		text, than = text[1:], than[1:]
	}
	if text == "" || than == "" {
		return than != ""
	}
	const letters = " abcdefghijklmnopqrstuvwxyz"
	return strings.IndexByte(letters, text[0]) < strings.IndexByte(letters, than[0])
}

// ordersBy puts the numbers up to one in order, one number more at a time: the order of the numbers up to each one, none from the first number without a name on.
func ordersBy(tongue impl.Tongue, most int) [][]int {
	texts := textsTo(tongue, most)
	orders := make([][]int, most+1)
	for n := 1; n <= most && texts[n] != ""; n++ {
		place := 0
		for place < n-1 && !ahead(texts[n], texts[orders[n-1][place]]) {
			place++
		}
		orders[n] = slices.Insert(slices.Clone(orders[n-1]), place, n)
	}
	return orders
}

// keptIn counts the numbers of an order that stand at their own places, -1 in none.
func keptIn(order []int) int {
	if len(order) == 0 {
		return -1
	}
	kept := 0
	for n := 1; n <= len(order); n++ {
		if slices.Index(order, n)+1 == n {
			kept++
		}
	}
	return kept
}

// upTo are numbers up to which numbers are put in order: all small ones, and both sides of greater ones.
func upTo() []int {
	list := []int{30, 31, 32, 33, 48, 63, 64, 65, 98, 99, 100, 101, 127, 128, 129, 148, 149, 150}
	for most := 1; most <= 24; most++ {
		list = append(list, most)
	}
	return list
}

// notSorted are numbers up to which no numbers are put in order.
func notSorted() []int {
	return append(outside(), 0, 151, 152, 199, 200, 201, 300, 500, 2000, 3000, 99999, 100000)
}

// checkBefore fails unless the name of a number is before that of another one, or is not, and the other way round just the other way, if these are two and have names.
func checkBefore(t *testing.T, tongue impl.Tongue, a int, b int, want bool) {
	t.Helper()
	if got := impl.BeforeOk(tongue, a, b); got != want {
		t.Fatalf("%v, %d and %d: BeforeOk %v, not %v", tongue, a, b, got, want)
	}
	_, okA := impl.NameOf(tongue, a)
	_, okB := impl.NameOf(tongue, b)
	round := okA && okB && a != b && !want
	if got := impl.BeforeOk(tongue, b, a); got != round {
		t.Fatalf("%v, %d and %d: BeforeOk %v, but round %v", tongue, a, b, want, got)
	}
}

// checkSorted fails unless the numbers up to one are put in just this order, each once and before the next one.
func checkSorted(t *testing.T, tongue impl.Tongue, most int, want ...int) {
	t.Helper()
	list := impl.SortedOf(tongue, most)
	if !slices.Equal(list, want) {
		t.Fatalf("%v, %d: SortedOf %v, not %v", tongue, most, list, want)
	}
	for i, n := range list {
		if len(list) != most || n < 1 || n > most || slices.Index(list, n) != i {
			t.Fatalf("%v, %d: not each number is once in %v", tongue, most, list)
		}
		if i > 0 && !impl.BeforeOk(tongue, list[i-1], n) {
			t.Fatalf("%v, %d: %d is not before %d, but in %v", tongue, most, list[i-1], n, list)
		}
	}
}

// checkEnd fails unless one end of the order of all numbers up to one is this number; and of one more, if that is told, it is too, or that one is.
func checkEnd(t *testing.T, tongue impl.Tongue, end func(impl.Tongue, int) int, most int, want int) {
	t.Helper()
	if got := end(tongue, most); got != want {
		t.Fatalf("%v, %d: at the end %d, not %d", tongue, most, got, want)
	}
	if want == -1 {
		return
	}
	if more := end(tongue, most+1); more != -1 && more != want && more != most+1 {
		t.Fatalf("%v: at the end up to %d %d, up to one more %d", tongue, most, want, more)
	}
}

// checkFirst fails unless this number is the first one of all up to one, before which none is.
func checkFirst(t *testing.T, tongue impl.Tongue, most int, want int) {
	t.Helper()
	checkEnd(t, tongue, impl.FirstOf, most, want)
	for n := 1; n <= most && want != -1; n++ {
		if impl.BeforeOk(tongue, n, want) {
			t.Fatalf("%v, %d: FirstOf %d, but %d is before", tongue, most, want, n)
		}
	}
}

// checkLast fails unless this number is the last one of all up to one, which is before none.
func checkLast(t *testing.T, tongue impl.Tongue, most int, want int) {
	t.Helper()
	checkEnd(t, tongue, impl.LastOf, most, want)
	for n := 1; n <= most && want != -1; n++ {
		if impl.BeforeOk(tongue, want, n) {
			t.Fatalf("%v, %d: LastOf %d, but it is before %d", tongue, most, want, n)
		}
	}
}

// checkPlace fails unless a number stands at this place of all up to one, where it is in order and behind as many numbers.
func checkPlace(t *testing.T, tongue impl.Tongue, n int, most int, want int) {
	t.Helper()
	if got := impl.PlaceOf(tongue, n, most); got != want {
		t.Fatalf("%v, %d up to %d: PlaceOf %d, not %d", tongue, n, most, got, want)
	}
	list := impl.SortedOf(tongue, most)
	if place := slices.Index(list, n); place != want {
		t.Fatalf("%v, %d up to %d: PlaceOf %d, but in order at %d", tongue, n, most, want, place)
	}
	before := 0
	for m := 1; m <= most && want >= 0; m++ {
		if impl.BeforeOk(tongue, m, n) {
			before++
		}
	}
	if want >= 0 && before != want {
		t.Fatalf("%v, %d up to %d: PlaceOf %d, but %d are before", tongue, n, most, want, before)
	}
}

// checkKept fails unless so many of the numbers up to one stand at their own places, which are never one less than all.
func checkKept(t *testing.T, tongue impl.Tongue, most int, want int) {
	t.Helper()
	got := impl.KeptOf(tongue, most)
	if got != want {
		t.Fatalf("%v, %d: KeptOf %d, not %d", tongue, most, got, want)
	}
	if got != -1 && got == most-1 || most == 1 && got != -1 && got != 1 {
		t.Fatalf("%v, %d: KeptOf %d", tongue, most, got)
	}
}

// checkOrder fails unless all functions tell this order of the numbers up to one.
func checkOrder(t *testing.T, tongue impl.Tongue, most int, order ...int) {
	t.Helper()
	checkSorted(t, tongue, most, order...)
	first, last := -1, -1
	if len(order) > 0 {
		first, last = order[0], order[len(order)-1]
	}
	checkFirst(t, tongue, most, first)
	checkLast(t, tongue, most, last)
	checkKept(t, tongue, most, keptIn(order))
	// Of up to 40 numbers each one, and of more every second one to every fourth one, as each place takes as many names.
	for place := 0; place < len(order); place += 1 + len(order)/41 {
		if got := impl.PlaceOf(tongue, order[place], most); got != place {
			t.Fatalf("%v, %d up to %d: PlaceOf %d, not %d", tongue, order[place], most, got, place)
		}
	}
	if len(order) > 0 {
		checkPlace(t, tongue, first, most, 0)
		checkPlace(t, tongue, order[len(order)/2], most, len(order)/2)
		checkPlace(t, tongue, last, most, len(order)-1)
	}
	for _, n := range []int{-1, 0, len(order) + 1, len(order) + 2, 100000} {
		checkPlace(t, tongue, n, most, -1)
	}
}

// checkNoOrder fails unless no order of the numbers up to one is told, by any function.
func checkNoOrder(t *testing.T, tongue impl.Tongue, most int) {
	t.Helper()
	checkOrder(t, tongue, most)
	for _, n := range []int{1, 2, 3, 4, 5, 9, 20, 99, 100, 150, 151} {
		checkPlace(t, tongue, n, most, -1)
	}
	checkPlace(t, tongue, most, most, -1)
}

func TestConstantsOfTheAlphabet(t *testing.T) {
	if impl.MaxSorted != 150 {
		t.Fatal(impl.MaxSorted)
	}
}

// Promise 39: names of one word and of several, told by hand.
func TestBeforeOfTens(t *testing.T) {
	for _, list := range [][]int{
		{8, 5, 4, 9, 1, 7, 6, 10, 3, 2},
		// eight, eight hundred, eight ten, eight ten eight, eight ten two, eight thousand; five.
		{8, 800, 80, 88, 82, 8000, 5},
		// hundred, hundred eight, hundred one, hundred ten, hundred ten eight, hundred two, hundred two ten; one.
		{100, 108, 101, 110, 118, 102, 120, 1},
		// nine ten nine thousand and what is less, and one, ten thousand, thousand, two, two hundred three ten four, two ten two.
		{99000, 99800, 99999, 99099, 1, 10, 10000, 1000, 2, 234, 22},
		// ten, ten one, ten one thousand, ten thousand, ten thousand ten one, ten two.
		{10, 11, 11000, 10000, 10011, 12},
	} {
		for i, a := range list {
			checkBefore(t, tens(), a, a, false)
			for _, b := range list[i+1:] {
				checkBefore(t, tens(), a, b, true)
				checkBefore(t, tens(), b, a, false)
			}
		}
	}
}

// Promise 39: names that begin others, and names that differ behind a space, told by hand.
func TestBeforeOfNamesThatBeginOthers(t *testing.T) {
	// a, a aa, a b, aa, b, b a, b a aa, b a b.
	list := []int{3, 4, 5, 1, 2, 6, 7, 8}
	for i, a := range list {
		for j, b := range list {
			checkBefore(t, prefixes(), a, b, i < j)
		}
	}
	letters := unitsAlone("a", "aa", "aaa", "aaaa", "aaaaa", "aaaaaa", "aaaaaaa", "aaaaaaaa")
	for a := 1; a <= 8; a++ {
		for b := 1; b <= 8; b++ {
			checkBefore(t, letters, a, b, a < b)
		}
	}
	// Letters at the end, and one letter more: b, ba, bb, bba, bz, c, and each of these behind the base a and a space.
	ends := impl.Tongue{Units: []string{"bz", "c", "bba", "b", "bb", "ba"}, Bases: []int{1, 7}, Names: []string{"a"}}
	list = []int{7, 11, 13, 12, 10, 8, 9, 4, 6, 5, 3, 1, 2}
	for i, a := range list {
		for j, b := range list {
			checkBefore(t, ends, a, b, i < j)
		}
	}
}

// Promise 39: numbers that have no name, on either side and on both, beside such that have one.
func TestBeforeOfNumbersWithoutNames(t *testing.T) {
	for _, tongue := range orderedTongues() {
		for _, none := range unnamed() {
			for _, n := range []int{1, 2, 5, 9, 10, 100, 234, 99999, none, 0, -1, 100000} {
				checkBefore(t, tongue, none, n, false)
				checkBefore(t, tongue, n, none, false)
			}
		}
	}
	for _, none := range []int{100, 101, 555, 999, 1100, 10100, 99999} {
		for _, n := range []int{1, 2, 8, 10, 99, 1000, 1099, 99000, none, 100, 999, 0, 100000} {
			checkBefore(t, noughts(), none, n, false)
			checkBefore(t, noughts(), n, none, false)
		}
	}
	for _, none := range []int{4, 9, 14, 19, 20, 25} {
		for _, n := range []int{1, 2, 3, 5, 8, 10, 4, 9, 99999} {
			checkBefore(t, gapped(), none, n, false)
			checkBefore(t, gapped(), n, none, false)
		}
	}
	checkBefore(t, gapped(), 8, 10, false)
	checkBefore(t, gapped(), 10, 8, true)
	checkBefore(t, unitsAlone("b", "a"), 2, 1, true)
	checkBefore(t, unitsAlone("b", "a"), 3, 1, false)
	checkBefore(t, unitsAlone("b", "a"), 1, 3, false)
}

// Promise 39: both ends of the numbers that may be named.
func TestBeforeOfMaxNamed(t *testing.T) {
	for _, n := range []int{1, 2, 3, 6, 7, 10, 22, 1000, 99099} {
		checkBefore(t, tens(), 99999, n, true)
		checkBefore(t, tens(), 100000, n, false)
		checkBefore(t, tens(), n, 100000, false)
		checkBefore(t, tens(), 0, n, false)
		checkBefore(t, tens(), n, 0, false)
	}
	// nine thousand is behind nine ten: of these numbers two are not before the greatest one.
	for _, n := range []int{4, 5, 8, 9, 100, 999, 9000, 9999, 99000, 99998} {
		checkBefore(t, tens(), n, 99999, n != 9000 && n != 9999)
		checkBefore(t, tens(), n, 100000, false)
	}
	for _, n := range []int{99999, 100000, 100001, 0, -1, math.MaxInt, math.MinInt} {
		checkBefore(t, tens(), n, n, false)
		checkBefore(t, tens(), 100000, n, false)
		checkBefore(t, tens(), 0, n, false)
	}
	// A base of a tongue, but above MaxNamed.
	checkBefore(t, tongueBy(9, 100000), 100000, 1, false)
	checkBefore(t, tongueBy(9, 100000), 1, 100000, false)
	checkBefore(t, tongueBy(9, 99999), 99999, 1, true)
}

// Promise 39: pairs of numbers of all tongues, against texts that are told letter by letter.
func TestBeforeOfAllTongues(t *testing.T) {
	pairs := map[bool]int{}
	for _, tongue := range orderedTongues() {
		texts := textsBy(tongue)
		var list []int
		for n := 1; n <= 99999; n += 1 + n/3 {
			list = append(list, n)
		}
		for _, base := range tongue.Bases {
			for _, n := range []int{base - 1, base + 1, 2 * base, base*base - 1, base * base} {
				if n >= 1 && n <= 99999 {
					list = append(list, n)
				}
			}
		}
		for _, a := range append(list, 99999) {
			for _, b := range list {
				want := texts[a] != "" && texts[b] != "" && ahead(texts[a], texts[b])
				checkBefore(t, tongue, a, b, want)
				pairs[want]++
			}
		}
	}
	if pairs[true] < 10000 || pairs[false] < 10000 {
		t.Fatalf("of one kind there are too few pairs: %v", pairs)
	}
}

// Promise 40: orders told by hand.
func TestSortedOf(t *testing.T) {
	for most, order := range map[int][]int{
		1: {1}, 2: {1, 2}, 3: {1, 3, 2}, 4: {4, 1, 3, 2}, 5: {5, 4, 1, 3, 2}, 6: {5, 4, 1, 6, 3, 2}, 7: {5, 4, 1, 7, 6, 3, 2},
		8: {8, 5, 4, 1, 7, 6, 3, 2}, 9: {8, 5, 4, 9, 1, 7, 6, 3, 2}, 10: {8, 5, 4, 9, 1, 7, 6, 10, 3, 2}, 11: {8, 5, 4, 9, 1, 7, 6, 10, 11, 3, 2},
		20: {8, 5, 4, 9, 1, 7, 6, 10, 18, 15, 14, 19, 11, 17, 16, 13, 12, 3, 2, 20},
		22: {8, 5, 4, 9, 1, 7, 6, 10, 18, 15, 14, 19, 11, 17, 16, 13, 12, 3, 2, 20, 21, 22},
		24: {8, 5, 4, 9, 1, 7, 6, 10, 18, 15, 14, 19, 11, 17, 16, 13, 12, 3, 2, 20, 24, 21, 23, 22},
	} {
		checkSorted(t, tens(), most, order...)
	}
	for most, order := range map[int][]int{
		1: {1}, 2: {1, 2}, 3: {3, 1, 2}, 4: {3, 4, 1, 2}, 5: {3, 4, 5, 1, 2}, 6: {3, 4, 5, 1, 2, 6}, 7: {3, 4, 5, 1, 2, 6, 7}, 8: {3, 4, 5, 1, 2, 6, 7, 8}, 9: nil, 10: nil, 150: nil,
	} {
		checkSorted(t, prefixes(), most, order...)
	}
	// a, b, be is twice e, c, d, e, ea to ed.
	for most, order := range map[int][]int{
		1: {1}, 2: {1, 2}, 5: {1, 2, 3, 4, 5}, 9: {1, 2, 3, 4, 5, 6, 7, 8, 9}, 10: {1, 2, 10, 3, 4, 5, 6, 7, 8, 9}, 11: {1, 2, 10, 11, 3, 4, 5, 6, 7, 8, 9}, 25: nil,
	} {
		checkSorted(t, ordered(), most, order...)
	}
	checkSorted(t, unitsAlone("b", "a"), 2, 2, 1)
	checkSorted(t, unitsAlone("aaa", "aa", "a"), 3, 3, 2, 1)
	checkSorted(t, unitsAlone("ab", "b", "a", "aab", "aa"), 5, 3, 5, 4, 1, 2)
}

// Promise 40: all numbers up to MaxSorted, told by hand: each word goes with those that are behind it.
func TestSortedOfMaxSorted(t *testing.T) {
	digits := []int{8, 5, 4, 9, 1, 7, 6, 3, 2}
	// behind are the places of a number alone and with each digit behind it.
	behind := func(n int) []int {
		list := []int{n}
		for _, digit := range digits {
			list = append(list, n+digit)
		}
		return list
	}
	// tenfold are a digit alone and the numbers of so many tens.
	tenfold := func(n int) []int {
		return append([]int{n}, behind(10*n)...)
	}
	// hundred, hundred eight .. hundred four, hundred four ten .., hundred nine, hundred one, hundred seven, hundred six, hundred ten .., hundred three, hundred three ten .., hundred two, hundred two ten ..
	hundred := slices.Concat([]int{100, 108, 105, 104}, behind(140), []int{109, 101, 107, 106}, behind(110), []int{103}, behind(130), []int{102}, behind(120))
	want := slices.Concat(tenfold(8), tenfold(5), tenfold(4), hundred, tenfold(9), []int{1}, tenfold(7), tenfold(6), behind(10), tenfold(3), tenfold(2))
	checkSorted(t, tens(), 149, want...)
	// hundred five ten is behind hundred five.
	place := slices.Index(want, 105) + 1
	want = slices.Insert(want, place, 150)
	checkSorted(t, tens(), 150, want...)
	checkFirst(t, tens(), 150, 8)
	checkLast(t, tens(), 150, 22)
	for place, n := range want {
		checkPlace(t, tens(), n, 150, place)
	}
	checkPlace(t, tens(), 151, 150, -1)
	checkKept(t, tens(), 150, keptIn(want))
	for _, most := range notSorted() {
		checkNoOrder(t, tens(), most)
	}
}

// Promises 40 to 44: tongues of one base, of one unit and of more, in both orders, up to the last unit and behind it.
func TestOrderOfUnitsAlone(t *testing.T) {
	for units := 1; units <= 20; units++ {
		straight, round := make([]int, units), make([]int, units)
		for i := range units {
			straight[i], round[i] = i+1, units-i
		}
		words := numbered("u", units)
		checkOrder(t, unitsAlone(words...), units, straight...)
		checkKept(t, unitsAlone(words...), units, units)
		checkNoOrder(t, unitsAlone(words...), units+1)
		checkNoOrder(t, unitsAlone(words...), 150)
		slices.Reverse(words)
		checkOrder(t, unitsAlone(words...), units, round...)
		// Of an odd number of them the one in the middle stays.
		checkKept(t, unitsAlone(words...), units, units%2)
		checkNoOrder(t, unitsAlone(words...), units+1)
		checkOrder(t, unitsAlone(words...), 1, 1)
	}
}

// Promises 40 to 44: a number among them that has no name, the last one and another one, behind which others have one.
func TestOrderWithoutSomeName(t *testing.T) {
	// 4 has no name, 5 to 8 have; 9 has none again.
	for most, order := range map[int][]int{1: {1}, 2: {1, 2}, 3: {1, 2, 3}, 4: nil, 5: nil, 6: nil, 8: nil, 9: nil, 10: nil, 13: nil, 150: nil} {
		checkOrder(t, gapped(), most, order...)
		for n := 1; n <= 10; n++ {
			checkPlace(t, gapped(), n, most, slices.Index(order, n))
		}
	}
	// 100 has no name, 101 and all behind it up to 150 have.
	tongue := tongueBy(9, 101)
	for _, most := range []int{100, 101, 102, 149, 150} {
		checkNoOrder(t, tongue, most)
		checkNoOrder(t, noughts(), most)
	}
	for _, tongue := range []impl.Tongue{tongue, noughts()} {
		orders := ordersBy(tongue, 99)
		checkOrder(t, tongue, 98, orders[98]...)
		checkOrder(t, tongue, 99, orders[99]...)
		checkPlace(t, tongue, 101, 99, -1)
		checkPlace(t, tongue, 1, 100, -1)
	}
	checkNoOrder(t, unitsAlone("a"), 2)
	checkNoOrder(t, tongueBy(1), 4)
	checkOrder(t, tongueBy(1), 3, 2, 3, 1)
}

// Promise 41: first numbers told by hand.
func TestFirstOf(t *testing.T) {
	for most, want := range map[int]int{1: 1, 2: 1, 3: 1, 4: 4, 5: 5, 6: 5, 7: 5, 8: 8, 9: 8, 10: 8, 80: 8, 99: 8, 100: 8, 149: 8, 150: 8, 0: -1, -1: -1, 151: -1, 152: -1} {
		checkFirst(t, tens(), most, want)
	}
	for most, want := range map[int]int{1: 1, 2: 1, 3: 3, 4: 3, 8: 3, 9: -1, 10: -1, 0: -1} {
		checkFirst(t, prefixes(), most, want)
	}
	// The last base is the first word: up to one less another one is.
	late := impl.Tongue{Units: numbered("c", 10), Bases: []int{1, 11, 121}, Names: []string{"b", "a"}}
	for most, want := range map[int]int{1: 1, 10: 1, 11: 11, 12: 11, 120: 11, 121: 121, 122: 121, 150: 121} {
		checkFirst(t, late, most, want)
	}
	for most := 1; most <= 20; most++ {
		checkFirst(t, unitsAlone("t", "s", "r", "q", "p", "o", "n", "m", "l", "k", "j", "i", "h", "g", "f", "e", "d", "c", "b", "a"), most, most)
		checkFirst(t, unitsAlone(numbered("q", 20)...), most, 1)
	}
	// The names of more words that begin with the first one are no earlier.
	checkFirst(t, impl.Tongue{Units: []string{"a"}, Bases: []int{1, 2}, Names: []string{"aa"}}, 3, 1)
	checkFirst(t, impl.Tongue{Units: []string{"aa"}, Bases: []int{1, 2}, Names: []string{"a"}}, 3, 2)
}

// Promise 42: last numbers told by hand.
func TestLastOf(t *testing.T) {
	for most, want := range map[int]int{1: 1, 2: 2, 3: 2, 4: 2, 10: 2, 19: 2, 20: 20, 21: 21, 22: 22, 23: 22, 24: 22, 99: 22, 100: 22, 102: 22, 149: 22, 150: 22, 0: -1, -1: -1, 151: -1, 152: -1} {
		checkLast(t, tens(), most, want)
	}
	for most, want := range map[int]int{1: 1, 2: 2, 3: 2, 4: 2, 5: 2, 6: 6, 7: 7, 8: 8, 9: -1, 10: -1, 0: -1} {
		checkLast(t, prefixes(), most, want)
	}
	// The last base is the last word: what is behind it is later and later.
	late := impl.Tongue{Units: numbered("c", 10), Bases: []int{1, 11, 121}, Names: []string{"d", "e"}}
	for most, want := range map[int]int{1: 1, 9: 9, 10: 10, 11: 11, 12: 12, 21: 21, 22: 21, 120: 21, 121: 121, 122: 122, 131: 131, 132: 132, 133: 133, 142: 142, 143: 142, 150: 142} {
		checkLast(t, late, most, want)
	}
	for most := 1; most <= 20; most++ {
		checkLast(t, unitsAlone("t", "s", "r", "q", "p", "o", "n", "m", "l", "k", "j", "i", "h", "g", "f", "e", "d", "c", "b", "a"), most, 1)
		checkLast(t, unitsAlone(numbered("q", 20)...), most, most)
	}
	checkLast(t, impl.Tongue{Units: []string{"a"}, Bases: []int{1, 2}, Names: []string{"aa"}}, 3, 3)
	checkLast(t, impl.Tongue{Units: []string{"aa"}, Bases: []int{1, 2}, Names: []string{"a"}}, 3, 1)
}

// Promise 43: places told by hand, the first one, the last one and others, and of numbers that are none of them.
func TestPlaceOf(t *testing.T) {
	for n, want := range map[int]int{8: 0, 5: 1, 4: 2, 9: 3, 1: 4, 7: 5, 6: 6, 10: 7, 3: 8, 2: 9, 0: -1, -1: -1, -8: -1, 11: -1, 12: -1, 80: -1, 150: -1, 151: -1, 100000: -1, math.MaxInt: -1, math.MinInt: -1} {
		checkPlace(t, tens(), n, 10, want)
	}
	// The place of a number is further behind if more numbers are told.
	for most, want := range map[int]int{1: -1, 2: 1, 3: 2, 4: 3, 9: 8, 10: 9, 11: 10, 19: 18, 20: 18, 21: 18, 0: -1, -1: -1, 151: -1, math.MaxInt: -1, math.MinInt: -1} {
		checkPlace(t, tens(), 2, most, want)
	}
	for n, want := range map[int]int{3: 0, 4: 1, 5: 2, 1: 3, 2: 4, 6: 5, 7: 6, 8: 7, 9: -1, 0: -1} {
		checkPlace(t, prefixes(), n, 8, want)
		checkPlace(t, prefixes(), n, 9, -1)
	}
	for _, n := range []int{-1, 0, 1, 2, 8, 22, 150, 151} {
		for _, most := range notSorted() {
			checkPlace(t, tens(), n, most, -1)
		}
	}
	for _, n := range unnamed() {
		for _, most := range append(upTo(), notSorted()...) {
			checkPlace(t, tens(), n, most, -1)
		}
	}
	checkPlace(t, tens(), 1, 1, 0)
	checkPlace(t, tens(), 0, 1, -1)
	checkPlace(t, tens(), 2, 1, -1)
	checkPlace(t, tens(), -1, 1, -1)
	checkPlace(t, tens(), 151, 151, -1)
	checkPlace(t, tens(), 0, 0, -1)
	checkPlace(t, tens(), -1, -1, -1)
}

// Promise 44: tongues in which all numbers stand at their own places, some do, and none does.
func TestKeptOf(t *testing.T) {
	for most, want := range map[int]int{
		// Up to 3 it is 1 alone that stands at its place, up to 4 it is 3, up to 8 it is 6, and up to 20 it is 20.
		1: 1, 2: 2, 3: 1, 4: 1, 5: 0, 6: 0, 7: 0, 8: 1, 9: 0, 10: 0, 11: 0, 20: 1, 0: -1, -1: -1, 151: -1, 152: -1,
	} {
		checkKept(t, tens(), most, want)
	}
	for most := 1; most <= 9; most++ {
		checkKept(t, ordered(), most, most)
	}
	// a b be c d e ea eb ec ed: 10 is between 2 and 3, so 1 and 2 alone are kept.
	checkKept(t, ordered(), 10, 2)
	checkKept(t, ordered(), 24, keptIn(ordersBy(ordered(), 24)[24]))
	checkKept(t, ordered(), 25, -1)
	for most, want := range map[int]int{1: 1, 2: 2, 3: 0, 4: 0, 5: 0, 6: 1, 7: 2, 8: 3, 9: -1} {
		checkKept(t, prefixes(), most, want)
	}
	checkKept(t, unitsAlone("b", "a"), 1, 1)
	checkKept(t, unitsAlone("b", "a"), 2, 0)
	checkKept(t, unitsAlone("b", "c", "a"), 3, 0)
	checkKept(t, unitsAlone("c", "b", "a"), 3, 1)
	checkKept(t, unitsAlone("a", "c", "b"), 3, 1)
	checkKept(t, unitsAlone("b", "a", "c"), 3, 1)
	checkKept(t, unitsAlone("b", "a", "c"), 2, 0)
	checkKept(t, unitsAlone("a", "b", "d", "c"), 4, 2)
	checkKept(t, unitsAlone("b", "a", "d", "c"), 4, 0)
}

// Promises 40 to 44: all rows of words that begin each other, as tongues of one base and of more, against an order that is made number by number.
func TestOrderOfManyTongues(t *testing.T) {
	kinds := map[string]int{}
	ordersOf([]string{"a", "aa", "ab", "b", "ba"}, func(words []string) {
		for _, bases := range [][]int{{1}, {1, 2}, {1, 3}, {1, 4}, {1, 5}, {1, 2, 3}, {1, 2, 5}, {1, 3, 7}, {1, 2, 3, 4}, {1, 2, 4, 16}} {
			units := len(words) - len(bases) + 1
			if units < 1 || len(bases) > 1 && bases[1] != units+1 {
				continue
			}
			tongue := impl.Tongue{Units: words[:units], Bases: bases, Names: words[units:]}
			for most, order := range ordersBy(tongue, 18) {
				checkOrder(t, tongue, most, order...)
				switch kept := keptIn(order); {
				case kept == most:
					kinds["all"]++
				case kept > 0:
					kinds["some"]++
				case kept == 0:
					kinds["none"]++
				default:
					kinds["not told"]++
				}
			}
		}
	})
	for _, kind := range []string{"all", "some", "none", "not told"} {
		if kinds[kind] < 200 {
			t.Fatalf("of one kind there are too few orders: %v", kinds)
		}
	}
}

// Promises 40 to 44: all tongues, up to MaxSorted, against an order that is made number by number.
func TestOrderOfAllTongues(t *testing.T) {
	told := map[int]int{}
	for _, tongue := range orderedTongues() {
		orders := ordersBy(tongue, 150)
		for _, most := range upTo() {
			checkOrder(t, tongue, most, orders[most]...)
			told[len(orders[most])]++
		}
		for _, most := range notSorted() {
			checkNoOrder(t, tongue, most)
		}
	}
	for _, most := range []int{1, 2, 10, 24, 99, 100, 149, 150} {
		if told[most] < 10 {
			t.Fatalf("so many numbers are put in order too seldom: %v", told)
		}
	}
}

// Promises 41 and 42: with each number more the first one and the last one stay, or are that number.
func TestFirstAndLastOfMore(t *testing.T) {
	for _, tongue := range []impl.Tongue{tens(), cuatro(), prefixes(), tongueBy(20), tongueBy(9, 20, 25), unitsAlone(numbered("q", 20)...)} {
		for most, order := range ordersBy(tongue, 150) {
			if len(order) == 0 {
				checkFirst(t, tongue, most, -1)
				checkLast(t, tongue, most, -1)
				continue
			}
			checkFirst(t, tongue, most, order[0])
			checkLast(t, tongue, most, order[len(order)-1])
		}
	}
}

// Promises 39 to 44: tongues that are none.
func TestNoOrderInWrongTongues(t *testing.T) {
	for _, tongue := range wrongTongues() {
		for _, most := range append(notSorted(), 1, 2, 3, 4, 9, 10, 20, 100, 149, 150) {
			checkNoOrder(t, tongue, most)
		}
		for _, a := range append(unnamed(), 1, 2, 3, 4, 10, 99, 234, 99999) {
			for _, b := range []int{-1, 0, 1, 2, 3, 10, 234, 99999, 100000} {
				checkBefore(t, tongue, a, b, false)
			}
		}
	}
}

// No function of the chapter writes into a slice of a tongue, whether it is valid or not.
func TestAlphabetArgumentsStay(t *testing.T) {
	for _, given := range append(orderedTongues(), wrongTongues()...) {
		g := guardTongue(given)
		for _, n := range append(unnamed(), 1, 2, 3, 4, 5, 8, 20, 99, 100, 149, 150, 151, 99999) {
			impl.BeforeOk(g.tongue(), n, 1)
			impl.BeforeOk(g.tongue(), 1, n)
			g.check(t, "BeforeOk")
			impl.SortedOf(g.tongue(), n)
			g.check(t, "SortedOf")
			impl.FirstOf(g.tongue(), n)
			g.check(t, "FirstOf")
			impl.LastOf(g.tongue(), n)
			g.check(t, "LastOf")
			impl.PlaceOf(g.tongue(), 1, n)
			impl.PlaceOf(g.tongue(), n, 150)
			g.check(t, "PlaceOf")
			impl.KeptOf(g.tongue(), n)
			g.check(t, "KeptOf")
		}
	}
}

// What is written into an order, and behind it, is found neither in the tongue nor in other orders.
func TestOrdersAreNew(t *testing.T) {
	for _, given := range orderedTongues() {
		for _, most := range []int{1, 2, 3, 4, 5, 8, 20, 99, 150} {
			g := guardTongue(given)
			first := impl.SortedOf(g.tongue(), most)
			want := slices.Clone(first)
			second, less := impl.SortedOf(g.tongue(), most), impl.SortedOf(g.tongue(), max(most/2, 1))
			wantLess := slices.Clone(less)
			scribble(first, other)
			g.check(t, "SortedOf")
			if !slices.Equal(second, want) || !slices.Equal(less, wantLess) {
				t.Fatalf("%v, %d: orders share memory: %v, %v", given, most, second, less)
			}
			checkSorted(t, g.tongue(), most, want...)
			scribbleTongue(g.tongue())
			if !slices.Equal(second, want) {
				t.Fatalf("%v, %d: an order shares memory with the tongue: %v", given, most, second)
			}
		}
	}
}

// An answer depends on the arguments alone, whatever was asked before: in other tongues the same numbers stand elsewhere.
func TestAlphabetKeepsNoState(t *testing.T) {
	one := impl.Tongue{Units: []string{"a", "b"}, Bases: []int{1, 3}, Names: []string{"c"}}
	two := impl.Tongue{Units: []string{"c"}, Bases: []int{1, 2, 3}, Names: []string{"b", "a"}}
	for range 3 {
		checkOrder(t, one, 5, 1, 2, 3, 4, 5)
		checkOrder(t, two, 5, 3, 5, 4, 2, 1)
		checkNoOrder(t, impl.Tongue{}, 5)
		checkOrder(t, one, 3, 1, 2, 3)
		checkOrder(t, two, 3, 3, 2, 1)
		checkBefore(t, one, 1, 3, true)
		checkBefore(t, two, 1, 3, false)
		checkBefore(t, impl.Tongue{}, 1, 3, false)
		checkNoOrder(t, one, 9)
		checkNoOrder(t, two, 9)
	}
}
