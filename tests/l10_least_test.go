package tests

import (
	"math"
	"slices"
	"strings"
	"testing"

	"loop.example/numberwords/impl"
)

// wordy is a tongue in which names of numbers that are looked at have up to 15 words.
func wordy() impl.Tongue {
	return tongueBy(1, 4, 16, 256)
}

// seenTongues are tongues in which the least number of so many words is at MaxSeen, just below it and just behind it, and those of chapters 8 and 9.
func seenTongues() []impl.Tongue {
	return append(orderedTongues(),
		wordy(), tongueBy(1, 999), tongueBy(1, 1498), tongueBy(1, 1499), tongueBy(1, 2997), tongueBy(1, 2998), tongueBy(1, 3000), tongueBy(1, 3001),
		tongueBy(1, 3, 9, 81), tongueBy(1, 4, 12, 48), tongueBy(2, 9, 81, 6561), tongueBy(9, 3000), tongueBy(9, 100, 2999), tongueBy(20, 440), tongueBy(4, 30, 1000),
	)
}

// wordsBy counts the words of the names of all numbers up to one, 0 of none, from names that are put together from the least on.
func wordsBy(tongue impl.Tongue, most int) []int {
	words := make([]int, most+1)
	for n, text := range textsTo(tongue, most) {
		words[n] = len(strings.Fields(text))
	}
	return words
}

// leastsBy are the least numbers of one word, of two words, and so on, -1 if there is none, up to the most words.
func leastsBy(words []int) []int {
	list := []int{}
	for many := 1; many <= slices.Max(words); many++ {
		list = append(list, slices.Index(words, many))
	}
	return list
}

// countsBy is how many numbers have one word, two words, and so on, up to the most words.
func countsBy(words []int) []int {
	list := make([]int, slices.Max(words))
	for _, of := range words {
		if of > 0 {
			list[of-1]++
		}
	}
	return list
}

// together is how many words there are of all numbers.
func together(words []int) int {
	all := 0
	for _, of := range words {
		all += of
	}
	return all
}

// seenUpTo are numbers up to which one looks: all small ones, and both sides of greater ones.
func seenUpTo() []int {
	list := []int{36, 48, 63, 64, 99, 100, 101, 220, 221, 255, 256, 399, 400, 511, 512, 624, 625, 999, 1000, 1001, 1221, 2047, 2221, 2500, 2998, 2999, 3000}
	for most := 1; most <= 24; most++ {
		list = append(list, most)
	}
	return list
}

// notSeen are numbers up to which one does not look.
func notSeen() []int {
	return append(outside(), 0, 3001, 3002, 4000, 6000, 30000, 99999, 100000)
}

// manyWords are numbers of words that no name has, most of them around bounds: no name of five bases has more than 31.
func manyWords() []int {
	return []int{29, 30, 31, 32, 33, 39, 40, 41, 42, 63, 64, 65, 100, 3000, 3001, 99999, math.MaxInt32, math.MaxInt - 1, math.MaxInt}
}

// fewWords are numbers of words below 1.
func fewWords() []int {
	return []int{0, -1, -2, -31, -32, -40, -41, -3000, math.MinInt32, math.MinInt + 1, math.MinInt}
}

// checkLeast fails unless this number is the least one of so many words, and less than that of one word more, or -1 is told if there is none.
func checkLeast(t *testing.T, tongue impl.Tongue, words int, want int) {
	t.Helper()
	got := impl.LeastOf(tongue, words)
	if got != want {
		t.Fatalf("%v, %d words: LeastOf %d, not %d", tongue, words, got, want)
	}
	if got == -1 {
		return
	}
	if long := impl.LongOf(tongue, got); long != words {
		t.Fatalf("%v, %d words: LeastOf %d, which has %d", tongue, words, got, long)
	}
	for n := 1; n < got; n++ {
		if impl.LongOf(tongue, n) == words {
			t.Fatalf("%v, %d words: LeastOf %d, but %d has so many", tongue, words, got, n)
		}
	}
	if more := impl.LeastOf(tongue, words+1); more != -1 && more <= got {
		t.Fatalf("%v, %d words: LeastOf %d, but of one word more %d", tongue, words, got, more)
	}
}

// checkLeasts fails unless these are the least numbers of one word, of two words, and so on, and there is none of more words.
func checkLeasts(t *testing.T, tongue impl.Tongue, want ...int) {
	t.Helper()
	for i, least := range want {
		checkLeast(t, tongue, i+1, least)
	}
	for words := len(want) + 1; words <= 45; words++ {
		checkLeast(t, tongue, words, -1)
	}
	for _, words := range append(manyWords(), fewWords()...) {
		checkLeast(t, tongue, words, -1)
	}
}

// checkCount fails unless so many numbers up to one have so many words.
func checkCount(t *testing.T, tongue impl.Tongue, most int, words int, want int) {
	t.Helper()
	if got := impl.CountOf(tongue, most, words); got != want {
		t.Fatalf("%v, up to %d, %d words: CountOf %d, not %d", tongue, most, words, got, want)
	}
}

// checkCounts fails unless so many numbers up to one have one word, two words, and so on, none has more, and together they are all that have names.
func checkCounts(t *testing.T, tongue impl.Tongue, most int, want ...int) {
	t.Helper()
	for i, count := range want {
		checkCount(t, tongue, most, i+1, count)
	}
	checkCount(t, tongue, most, len(want)+1, 0)
	all := 0
	words, _, _ := impl.MostWords(tongue, most)
	for many := 1; many <= words; many++ {
		all += impl.CountOf(tongue, most, many)
	}
	named := 0
	for n := 1; n <= most; n++ {
		if impl.LongOf(tongue, n) > 0 {
			named++
		}
	}
	if words != len(want) || all != named || most <= impl.GreatestNamed(tongue) && all != most {
		t.Fatalf("%v, up to %d: together %d of up to %d words, but %d have names", tongue, most, all, words, named)
	}
}

// checkMost fails unless names of numbers up to one have at most so many words, this one first, and each lesser number of words is that of one up to it.
func checkMost(t *testing.T, tongue impl.Tongue, most int, words int, at int) {
	t.Helper()
	if gotWords, gotAt, ok := impl.MostWords(tongue, most); gotWords != words || gotAt != at || !ok {
		t.Fatalf("%v, up to %d: MostWords %d, %d, %v, not %d, %d", tongue, most, gotWords, gotAt, ok, words, at)
	}
	if at < 1 || at > most || impl.LongOf(tongue, at) != words {
		t.Fatalf("%v, up to %d: MostWords %d, but the name of %d has not so many", tongue, most, words, at)
	}
	for n := 1; n <= most; n++ {
		if long := impl.LongOf(tongue, n); long > words || long == words && n < at {
			t.Fatalf("%v, up to %d: MostWords %d, %d, but %d has %d", tongue, most, words, at, n, long)
		}
	}
	for many := 1; many <= words; many++ {
		if least := impl.LeastOf(tongue, many); least < 1 || least > at || many == words && least != at {
			t.Fatalf("%v, up to %d: MostWords %d, %d, but LeastOf %d words %d", tongue, most, words, at, many, least)
		}
	}
}

// checkAll fails unless the names of all numbers up to one have so many words together, and with one number more as much more as its name has, if it has one.
func checkAll(t *testing.T, tongue impl.Tongue, most int, want int) {
	t.Helper()
	got := impl.AllWords(tongue, most)
	if got != want {
		t.Fatalf("%v, up to %d: AllWords %d, not %d", tongue, most, got, want)
	}
	if most <= impl.GreatestNamed(tongue) && got < most {
		t.Fatalf("%v, up to %d: AllWords %d, but all have names", tongue, most, got)
	}
	more := impl.AllWords(tongue, most+1)
	if most == 3000 {
		if more != -1 {
			t.Fatalf("%v, up to %d: AllWords %d", tongue, most+1, more)
		}
		return
	}
	if more != got+max(impl.LongOf(tongue, most+1), 0) {
		t.Fatalf("%v: AllWords up to %d %d, up to one more %d", tongue, most, got, more)
	}
}

// checkSeen fails unless all functions tell of the numbers up to one what is counted in the words of all numbers.
func checkSeen(t *testing.T, tongue impl.Tongue, most int, words []int) {
	t.Helper()
	words = words[:most+1]
	leasts := leastsBy(words)
	want, at := len(leasts), leasts[len(leasts)-1]
	if got, n, ok := impl.MostWords(tongue, most); got != want || n != at || !ok {
		t.Fatalf("%v, up to %d: MostWords %d, %d, %v, not %d, %d", tongue, most, got, n, ok, want, at)
	}
	for i, count := range countsBy(words) {
		checkCount(t, tongue, most, i+1, count)
	}
	checkCount(t, tongue, most, want+1, 0)
	checkCount(t, tongue, most, want+2, 0)
	for _, many := range []int{31, 32, 40, 41, math.MaxInt} {
		checkCount(t, tongue, most, many, 0)
	}
	for _, many := range []int{0, -1, math.MinInt} {
		checkCount(t, tongue, most, many, -1)
	}
	if got := impl.AllWords(tongue, most); got != together(words) {
		t.Fatalf("%v, up to %d: AllWords %d, not %d", tongue, most, got, together(words))
	}
}

// checkNotSeen fails unless nothing is told of the numbers up to one.
func checkNotSeen(t *testing.T, tongue impl.Tongue, most int) {
	t.Helper()
	for _, words := range slices.Concat(manyWords(), fewWords(), []int{1, 2, 3, 4, 5, 7, 15}) {
		checkCount(t, tongue, most, words, -1)
	}
	if words, at, ok := impl.MostWords(tongue, most); words != -1 || at != -1 || ok {
		t.Fatalf("%v, up to %d: MostWords %d, %d, %v", tongue, most, words, at, ok)
	}
	if all := impl.AllWords(tongue, most); all != -1 {
		t.Fatalf("%v, up to %d: AllWords %d", tongue, most, all)
	}
}

func TestConstantsOfLeastNumbers(t *testing.T) {
	if impl.MaxSeen != 3000 {
		t.Fatal(impl.MaxSeen)
	}
}

// Promise 45: least numbers told by hand; behind the last one there is none up to MaxSeen.
func TestLeastOf(t *testing.T) {
	for _, c := range []struct {
		tongue impl.Tongue
		want   []int
	}{
		// One, ten one, two ten one, hundred two ten one, two hundred two ten one, and thousand and two thousand before these.
		{tens(), []int{1, 11, 21, 121, 221, 1221, 2221}},
		{cuatro(), []int{1, 11, 21, 121, 221, 1221, 2221}},
		{tongueBy(9, 100, 1000, 10000), []int{1, 11, 21, 121, 221, 1221, 2221}},
		// 1 and 2, 3 is of both, 7 is 4 and 3, 11 twice 4 and 3, 15 three times 4 and 3, 31, 47 and 63 are 16, twice 16 and three times 16 and 15, and so on with 255; 16 words would be eleven times 256 and 255.
		{wordy(), []int{1, 3, 7, 11, 15, 31, 47, 63, 127, 191, 255, 511, 767, 1023, 2047}},
		// Two bases: base and unit, and twice the base and unit.
		{tongueBy(1), []int{1, 3}}, {tongueBy(2), []int{1, 4, 7}}, {tongueBy(9), []int{1, 11, 21}}, {tongueBy(20), []int{1, 22, 43}},
		{prefixes(), []int{1, 4, 7}},
		// Bases beside each other.
		{tongueBy(1, 3, 4, 5), []int{1, 6, 11}}, {ordered(), []int{1, 6, 11}}, {tongueBy(20, 22, 23, 24), []int{1, 25, 49}},
		// 25 and 11, twice 25 and 11, eleven times 25 and 11.
		{tongueBy(9, 20, 25), []int{1, 11, 36, 61, 286}},
	} {
		checkLeasts(t, c.tongue, c.want...)
	}
}

// Promise 45: numbers without names lie between those that have some.
func TestLeastOfBetweenNumbersWithoutNames(t *testing.T) {
	for _, c := range []struct {
		tongue impl.Tongue
		want   []int
	}{
		// 100 to 999 have none: four words are those of thousand two ten one.
		{noughts(), []int{1, 11, 21, 1021, 2021}},
		// 4 and 9 have none: 8 is 5 and 3, 13 twice 5 and 3, and 18 three times 5 and 3.
		{gapped(), []int{1, 3, 8, 13, 18}},
		// 25 to 29 have none, and so 30 is taken of 750 and more: 41 is 30 and 11, 71 twice, 191 six times and 341 eleven times 30 and 11, and 1341 is 1000 and that.
		{tongueBy(4, 30, 1000), []int{1, 6, 11, 41, 71, 191, 341, 1341, 2341}},
		// 4 to 99 have none, and 103 is 100 and 3.
		{tongueBy(1, 100), []int{1, 3, 103, 203, 303}},
		// All behind 3, and behind 99 up to the third base, have none.
		{tongueBy(1, 999999), []int{1, 3}}, {tongueBy(9, 2999), []int{1, 11, 21}}, {tongueBy(9, 100000), []int{1, 11, 21}},
	} {
		checkLeasts(t, c.tongue, c.want...)
	}
}

// Promise 45: the least number of so many words is MaxSeen, one less, or one more, up to which one does not look.
func TestLeastOfMaxSeen(t *testing.T) {
	for _, c := range []struct {
		third int
		words int
		want  int
	}{
		// Of the bases 1, 2 and a third one three words are those of that and 3, four of twice that and 3, and five of three times that and 3.
		{2996, 3, 2999}, {2997, 3, 3000}, {2998, 3, -1}, {2999, 3, -1},
		{1498, 4, 2999}, {1499, 4, -1}, {998, 5, 2997}, {999, 5, 3000}, {1000, 5, -1},
		// The third base itself.
		{2999, 1, 1}, {3000, 1, 1}, {3000, 3, -1}, {3001, 3, -1},
	} {
		tongue := tongueBy(1, c.third)
		checkLeast(t, tongue, c.words, c.want)
		long := impl.LongOf(tongue, c.third+3)
		if c.words == 3 && long != 3 {
			t.Fatalf("%v: %d has %d words", tongue, c.third+3, long)
		}
	}
	// What 3001 has alone is told of none.
	checkMost(t, tongueBy(1, 2998), 3000, 2, 3)
	checkMost(t, tongueBy(1, 2997), 3000, 3, 3000)
	checkMost(t, tongueBy(1, 2997), 2999, 2, 3)
	checkCount(t, tongueBy(1, 2997), 3000, 3, 1)
	checkCount(t, tongueBy(1, 2997), 2999, 3, 0)
	checkCount(t, tongueBy(1, 2998), 3000, 3, 0)
	checkCount(t, tongueBy(1, 999), 3000, 5, 1)
	checkCount(t, tongueBy(1, 999), 2999, 5, 0)
}

// Promises 45 to 48: in tongues of one base each name is one word, up to the last unit, and behind it there are none.
func TestWordsOfUnitsAlone(t *testing.T) {
	for units := 1; units <= 20; units++ {
		tongue := unitsAlone(numbered("u", units)...)
		checkLeasts(t, tongue, 1)
		for _, most := range append(seenUpTo(), units, units+1) {
			checkCounts(t, tongue, most, min(most, units))
			checkMost(t, tongue, most, 1, 1)
			checkAll(t, tongue, most, min(most, units))
		}
		for _, most := range notSeen() {
			checkNotSeen(t, tongue, most)
		}
	}
}

// Promise 46: counts told by hand, from one word on.
func TestCountOf(t *testing.T) {
	for most, want := range map[int][]int{
		1: {1}, 2: {2}, 9: {9}, 10: {10}, 11: {10, 1}, 12: {10, 2}, 19: {10, 9}, 20: {10, 10}, 21: {10, 10, 1}, 30: {10, 11, 9}, 31: {10, 11, 10},
		// Nine units and ten; ten and a unit, and so many tens; and these with units.
		99: {10, 17, 72}, 100: {11, 17, 72}, 101: {11, 18, 72}, 111: {11, 27, 73}, 121: {11, 27, 82, 1}, 199: {11, 27, 89, 72}, 200: {11, 28, 89, 72},
		// Each of the eight further hundreds is named by two words.
		999: {11, 35, 169, 208, 576}, 1000: {12, 35, 169, 208, 576}, 1999: {12, 46, 204, 377, 784, 576}, 2000: {12, 47, 204, 377, 784, 576},
		2999: {12, 47, 215, 412, 953, 784, 576}, 3000: {12, 48, 215, 412, 953, 784, 576},
	} {
		checkCounts(t, tens(), most, want...)
		checkCounts(t, cuatro(), most, want...)
		for _, words := range manyWords() {
			checkCount(t, tens(), most, words, 0)
		}
		for _, words := range fewWords() {
			checkCount(t, tens(), most, words, -1)
		}
	}
	for most, want := range map[int][]int{
		1: {1}, 2: {2}, 3: {2, 1}, 4: {3, 1}, 5: {3, 2}, 6: {3, 3}, 7: {3, 3, 1}, 8: {3, 4, 1}, 11: {3, 4, 3, 1}, 15: {3, 4, 4, 3, 1}, 16: {4, 4, 4, 3, 1},
	} {
		checkCounts(t, wordy(), most, want...)
	}
	for _, most := range notSeen() {
		checkNotSeen(t, tens(), most)
		checkNotSeen(t, wordy(), most)
	}
}

// Promise 46: numbers without names are counted among none.
func TestCountOfNumbersWithoutNames(t *testing.T) {
	for most, want := range map[int][]int{
		1: {1}, 3: {2, 1}, 4: {2, 1}, 5: {3, 1}, 8: {3, 3, 1}, 9: {3, 3, 1}, 10: {3, 4, 1}, 12: {3, 4, 3}, 13: {3, 4, 3, 1}, 14: {3, 4, 3, 1}, 15: {3, 4, 4, 1},
		18: {3, 4, 4, 3, 1}, 19: {3, 4, 4, 3, 1}, 20: {3, 4, 4, 3, 1}, 25: {3, 4, 4, 3, 1}, 3000: {3, 4, 4, 3, 1},
	} {
		checkCounts(t, gapped(), most, want...)
	}
	for most, want := range map[int][]int{
		// Of thousand, and of two thousand, there are 99 more each, of one and of two words more, and there is 3000.
		99: {10, 17, 72}, 100: {10, 17, 72}, 500: {10, 17, 72}, 999: {10, 17, 72}, 1000: {11, 17, 72}, 1001: {11, 18, 72}, 1099: {11, 27, 89, 72}, 1100: {11, 27, 89, 72}, 1999: {11, 27, 89, 72},
		2000: {11, 28, 89, 72}, 2099: {11, 28, 99, 89, 72}, 2999: {11, 28, 99, 89, 72}, 3000: {11, 29, 99, 89, 72},
	} {
		checkCounts(t, noughts(), most, want...)
	}
	for most, want := range map[int][]int{2: {2}, 3: {2, 1}, 4: {2, 1}, 2999: {2, 1}, 3000: {2, 1}} {
		checkCounts(t, tongueBy(1), most, want...)
		checkCounts(t, tongueBy(1, 999999), most, want...)
	}
	checkCounts(t, tongueBy(1, 2999), 2998, 2, 1)
	checkCounts(t, tongueBy(1, 2999), 2999, 3, 1)
	checkCounts(t, tongueBy(1, 2999), 3000, 3, 2)
	checkCounts(t, tongueBy(1, 3000), 3000, 3, 1)
	checkCounts(t, tongueBy(1, 3001), 3000, 2, 1)
}

// Promise 47: most words told by hand, where a number of more words is reached and just before.
func TestMostWords(t *testing.T) {
	for most, at := range map[int]int{
		1: 1, 2: 1, 9: 1, 10: 1, 11: 11, 12: 11, 20: 11, 21: 21, 22: 21, 99: 21, 100: 21, 120: 21, 121: 121, 122: 121, 220: 121, 221: 221, 222: 221, 300: 221, 999: 221, 1000: 221,
		1220: 221, 1221: 1221, 1222: 1221, 2220: 1221, 2221: 2221, 2222: 2221, 2999: 2221, 3000: 2221,
	} {
		words := map[int]int{1: 1, 11: 2, 21: 3, 121: 4, 221: 5, 1221: 6, 2221: 7}[at]
		checkMost(t, tens(), most, words, at)
		checkMost(t, cuatro(), most, words, at)
	}
	for i, at := range []int{1, 3, 7, 11, 15, 31, 47, 63, 127, 191, 255, 511, 767, 1023, 2047} {
		checkMost(t, wordy(), at, i+1, at)
		if at > 1 {
			checkMost(t, wordy(), at-1, i, impl.LeastOf(wordy(), i))
		}
		checkMost(t, wordy(), at+1, i+1, at)
	}
	checkMost(t, wordy(), 3000, 15, 2047)
	for most, at := range map[int]int{1: 1, 2: 1, 3: 3, 4: 3, 7: 3, 8: 8, 9: 8, 12: 8, 13: 13, 14: 13, 17: 13, 18: 18, 19: 18, 25: 18, 2999: 18, 3000: 18} {
		checkMost(t, gapped(), most, map[int]int{1: 1, 3: 2, 8: 3, 13: 4, 18: 5}[at], at)
	}
	for most, at := range map[int]int{1: 1, 20: 11, 21: 21, 100: 21, 999: 21, 1020: 21, 1021: 1021, 1999: 1021, 2020: 1021, 2021: 2021, 3000: 2021} {
		checkMost(t, noughts(), most, map[int]int{1: 1, 11: 2, 21: 3, 1021: 4, 2021: 5}[at], at)
	}
	for _, most := range notSeen() {
		checkNotSeen(t, tens(), most)
		checkNotSeen(t, gapped(), most)
	}
}

// Promise 48: words of all numbers told by hand; those without a name have none.
func TestAllWords(t *testing.T) {
	for most, want := range map[int]int{
		1: 1, 2: 2, 9: 9, 10: 10, 11: 12, 12: 14, 19: 28, 20: 30, 21: 33, 29: 57, 30: 59, 99: 260, 100: 261, 101: 263, 199: 260 + 1 + 99 + 260, 200: 622,
		// Of 100 numbers there is a word more for hundred each, and of 800 two; of 1000 one more for thousand, and of 1000 two.
		999: 10*260 + 100 + 1600, 1000: 4301, 1999: 4300 + 1000 + 4300, 2000: 9602, 2999: 9600 + 2000 + 4300, 3000: 15902,
	} {
		checkAll(t, tens(), most, want)
		checkAll(t, cuatro(), most, want)
	}
	for most, want := range map[int]int{1: 1, 2: 2, 3: 4, 4: 4, 5: 5, 6: 7, 7: 9, 8: 12, 9: 12, 10: 14, 13: 24, 14: 24, 15: 27, 18: 40, 19: 40, 20: 40, 24: 40, 25: 40, 3000: 40} {
		checkAll(t, gapped(), most, want)
	}
	for most, want := range map[int]int{
		99: 260, 100: 260, 999: 260, 1000: 261, 1001: 263, 1099: 260 + 100 + 260, 1100: 620, 1999: 620, 2000: 622, 2099: 620 + 200 + 260, 2999: 1080, 3000: 1082,
	} {
		checkAll(t, noughts(), most, want)
	}
	for _, most := range notSeen() {
		checkNotSeen(t, tens(), most)
		checkNotSeen(t, noughts(), most)
	}
}

// Promise 48: number by number up to MaxSeen, in tongues with many words, with few, and with numbers without names.
func TestAllWordsByOneNumberMore(t *testing.T) {
	for _, tongue := range []impl.Tongue{tens(), wordy(), noughts(), gapped(), unitsAlone(numbered("q", 20)...), tongueBy(4, 30, 1000), tongueBy(9, 20, 25), tongueBy(1, 2998)} {
		words := wordsBy(tongue, 3000)
		want := 0
		for most := 1; most <= 3000; most++ {
			want += words[most]
			checkAll(t, tongue, most, want)
		}
	}
}

// Promises 45 to 48: all tongues, against words that are counted in names put together from the least on.
func TestSeenOfAllTongues(t *testing.T) {
	told := map[int]int{}
	for _, tongue := range seenTongues() {
		words := wordsBy(tongue, 3000)
		most := slices.Max(words)
		told[most]++
		checkLeasts(t, tongue, leastsBy(words)...)
		for _, upTo := range seenUpTo() {
			checkSeen(t, tongue, upTo, words)
		}
		for _, upTo := range []int{1, 20, 150, 3000} {
			part := words[:upTo+1]
			leasts := leastsBy(part)
			checkMost(t, tongue, upTo, len(leasts), leasts[len(leasts)-1])
			checkCounts(t, tongue, upTo, countsBy(part)...)
			checkAll(t, tongue, upTo, together(part))
		}
		for _, upTo := range notSeen() {
			checkNotSeen(t, tongue, upTo)
		}
	}
	for _, most := range []int{1, 2, 3, 5, 7, 11, 15} {
		if told[most] == 0 {
			t.Fatalf("no tongue has names of at most %d words: %v", most, told)
		}
	}
}

// Promises 45 to 48: all small bases, against words that are counted in names put together from the least on.
func TestSeenOfSmallBases(t *testing.T) {
	gaps, none := 0, 0
	for units := 1; units <= 3; units++ {
		listsUpTo(3, []int{3, 4, 5, 8, 9, 15, 16, 17, 40}, func(further []int) {
			tongue := tongueBy(units, further...)
			if !impl.TongueOk(tongue) {
				return
			}
			words := wordsBy(tongue, 3000)
			checkLeasts(t, tongue, leastsBy(words)...)
			for _, most := range []int{1, 2, 3, 4, 5, 8, 9, 16, 17, 40, 41, 100, 256, 1600, 3000} {
				checkSeen(t, tongue, most, words)
			}
			last := 3000
			for words[last] == 0 {
				last--
			}
			if slices.Contains(words[1:last], 0) {
				gaps++
			} else {
				none++
			}
		})
	}
	if gaps < 20 || none < 20 {
		t.Fatalf("there are too few of one kind of bases: %d with and %d without gaps", gaps, none)
	}
}

// Promises 45 to 48: nothing but how many words there are is told, whatever words they are.
func TestSeenWhateverTheWords(t *testing.T) {
	for _, tongue := range []impl.Tongue{tens(), gapped(), noughts(), wordy()} {
		words := wordsBy(tongue, 3000)
		many := len(impl.WordsOf(tongue))
		for a := range many {
			swapped, ok := impl.SwappedOf(tongue, a, many-1)
			if !ok {
				t.Fatalf("%v: no words exchanged at %d and %d", tongue, a, many-1)
			}
			for _, most := range []int{1, 2, 3, 20, 3000} {
				checkSeen(t, swapped, most, words)
			}
			for of := range 17 {
				if got, want := impl.LeastOf(swapped, of), impl.LeastOf(tongue, of); got != want {
					t.Fatalf("%v, %d words: LeastOf %d, not %d", swapped, of, got, want)
				}
			}
		}
	}
}

// Promises 45 to 48: tongues that are none.
func TestNothingSeenInWrongTongues(t *testing.T) {
	for _, tongue := range wrongTongues() {
		for _, words := range slices.Concat(manyWords(), fewWords(), []int{1, 2, 3, 4, 5, 15}) {
			checkLeast(t, tongue, words, -1)
		}
		for _, most := range append(notSeen(), 1, 2, 3, 9, 10, 20, 100, 2999, 3000) {
			checkNotSeen(t, tongue, most)
		}
	}
}

// No function of the chapter writes into a slice of a tongue, whether it is valid or not.
func TestSeenArgumentsStay(t *testing.T) {
	for _, given := range append(seenTongues(), wrongTongues()...) {
		g := guardTongue(given)
		for _, n := range append(notSeen(), 1, 2, 3, 5, 7, 15, 20, 31, 32, 40, 41, 100, 2999, 3000) {
			impl.LeastOf(g.tongue(), n)
			g.check(t, "LeastOf")
			impl.CountOf(g.tongue(), n, 1)
			impl.CountOf(g.tongue(), 100, n)
			g.check(t, "CountOf")
			impl.MostWords(g.tongue(), n)
			g.check(t, "MostWords")
			impl.AllWords(g.tongue(), n)
			g.check(t, "AllWords")
		}
	}
}

// An answer depends on the arguments alone, whatever was asked before: in other tongues the same numbers have more words, or fewer.
func TestSeenKeepsNoState(t *testing.T) {
	for range 3 {
		checkMost(t, wordy(), 3000, 15, 2047)
		checkLeast(t, wordy(), 4, 11)
		checkCounts(t, wordy(), 8, 3, 4, 1)
		checkAll(t, wordy(), 8, 14)
		checkNotSeen(t, impl.Tongue{}, 8)
		checkMost(t, tens(), 20, 2, 11)
		checkLeast(t, tens(), 4, 121)
		checkCounts(t, tens(), 8, 8)
		checkAll(t, tens(), 8, 8)
		checkLeast(t, unitsAlone("a"), 2, -1)
		checkLeast(t, impl.Tongue{}, 1, -1)
		checkMost(t, gapped(), 8, 3, 8)
		checkCounts(t, gapped(), 9, 3, 3, 1)
		checkAll(t, gapped(), 9, 12)
		checkNotSeen(t, wordy(), 3001)
		checkNotSeen(t, tens(), 0)
	}
}
