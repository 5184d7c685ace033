package tests

import (
	"math"
	"slices"
	"strings"
	"testing"

	"loop.example/numberwords/impl"
)

// takenTongues are tongues of one base and of more, whose bases divide each other or do not, and in which all numbers or only some have names.
func takenTongues() []impl.Tongue {
	return append(namedTongues(),
		pair(), hundreds(), sacks(), tongueBy(9, 25), tongueBy(9, 11), tongueBy(9, 15, 700), tongueBy(9, 25, 70), tongueBy(1, 4, 16), tongueBy(1, 4, 16, 1000), tongueBy(1, 3, 9, 27),
		tongueBy(3, 6, 9, 15), tongueBy(6, 10, 60), tongueBy(19, 340), tongueBy(20, 22, 100), tongueBy(9, 1000, 99998), tongueBy(4, 7, 1000, 99997),
	)
}

// takenBy makes the texts of the names by taking away of all numbers up to MaxNamed, "" for none, of the texts of all names, without taking any number apart:
// all multiples of bases are marked, and from the greatest number down the last one that was met is what is taken from.
func takenBy(tongue impl.Tongue, texts []string, from string, bound int) []string {
	marked := make([]bool, 100100)
	for _, base := range tongue.Bases[1:] {
		for multiple := base; multiple < len(marked); multiple += base {
			marked[multiple] = true
		}
	}
	taken := make([]string, 100000)
	next := 0
	for n := len(marked) - 1; n >= 1; n-- {
		if n < next && next <= 99999 && next-n <= bound && texts[next] != "" && texts[next-n] != "" {
			taken[n] = texts[next-n] + " " + from + " " + texts[next]
		}
		if marked[n] {
			next = n
		}
	}
	return taken
}

// wordsIn tells how many words a name has, by the spaces of its text.
func wordsIn(text string) int {
	return strings.Count(text, " ") + 1
}

// shorterBy makes the texts of the shorter names of all numbers, "" for none, of the texts of both.
func shorterBy(texts []string, taken []string) []string {
	shorter := slices.Clone(texts)
	for n, text := range taken {
		if text != "" && (texts[n] == "" || wordsIn(text) < wordsIn(texts[n])) {
			shorter[n] = text
		}
	}
	return shorter
}

// shortenedBy counts, of all numbers up to each one up to 2000, those of which the name by taking away has fewer words than the name.
func shortenedBy(texts []string, taken []string) []int {
	counts := make([]int, 2001)
	for n := 1; n <= 2000; n++ {
		counts[n] = counts[n-1]
		if taken[n] != "" && texts[n] != "" && wordsIn(taken[n]) < wordsIn(texts[n]) {
			counts[n]++
		}
	}
	return counts
}

// numbersShorter tells the number of each shorter name of a tongue.
func numbersShorter(t *testing.T, tongue impl.Tongue, from string, bound int) map[string]int {
	t.Helper()
	texts := textsBy(tongue)
	return numbersIn(t, tongue, shorterBy(texts, takenBy(tongue, texts, from, bound)))
}

// checkTaken fails unless a number has the name by taking away with a text, or none if that is "", and what is named in it is what lacks and what is taken from.
func checkTaken(t *testing.T, tongue impl.Tongue, n int, from string, bound int, text string) {
	t.Helper()
	list, ok := impl.TakenFrom(tongue, n, from, bound)
	if ok != (text != "") || !slices.Equal(list, strings.Fields(text)) {
		t.Fatalf("%v, %d, %q, %d: TakenFrom %q, %v, not %q", tongue, n, from, bound, list, ok, text)
	}
	if !ok {
		return
	}
	place := slices.Index(list, from)
	lacking, okLacking := impl.ReadName(tongue, list[:place])
	multiple, okMultiple := impl.ReadName(tongue, list[place+1:])
	if !okLacking || !okMultiple || lacking < 1 || lacking > bound || multiple != n+lacking {
		t.Fatalf("%v, %d, %q, %d: %q takes %d from %d", tongue, n, from, bound, list, lacking, multiple)
	}
}

// checkReadShorter fails unless words are read as a number, or refused if that is -1.
func checkReadShorter(t *testing.T, tongue impl.Tongue, list []string, from string, bound int, want int) {
	t.Helper()
	if n, ok := impl.ReadShorter(tongue, list, from, bound); n != want || ok != (want != -1) {
		t.Fatalf("%v, %q, %d: ReadShorter of the %d words %.300q: %d, %v, not %d", tongue, from, bound, len(list), list, n, ok, want)
	}
}

// checkShorter fails unless a number has the shorter name with a text, which is read as the number, or none if that is "".
func checkShorter(t *testing.T, tongue impl.Tongue, n int, from string, bound int, text string) {
	t.Helper()
	list, ok := impl.ShorterName(tongue, n, from, bound)
	if ok != (text != "") || !slices.Equal(list, strings.Fields(text)) {
		t.Fatalf("%v, %d, %q, %d: ShorterName %q, %v, not %q", tongue, n, from, bound, list, ok, text)
	}
	if ok {
		checkReadShorter(t, tongue, list, from, bound, n)
	}
}

// checkUntaken fails if a number has a name by taking away, or a shorter name.
func checkUntaken(t *testing.T, tongue impl.Tongue, n int, from string, bound int) {
	t.Helper()
	checkTaken(t, tongue, n, from, bound, "")
	checkShorter(t, tongue, n, from, bound, "")
}

// checkShortened fails unless so many numbers up to one have a name by taking away that is shorter.
func checkShortened(t *testing.T, tongue impl.Tongue, most int, from string, bound int, want int) {
	t.Helper()
	if got := impl.ShortenedUpTo(tongue, most, from, bound); got != want {
		t.Fatalf("%v, %q, %d: ShortenedUpTo %d: %d, not %d", tongue, from, bound, most, got, want)
	}
}

// Promise 23: names told by hand; numbers one, two and more less than a multiple of one, two and three bases, and multiples themselves.
func TestTakenFromTens(t *testing.T) {
	for n, text := range map[int]string{
		1: "", 5: "", 6: "", 7: "three from ten", 8: "two from ten", 9: "one from ten", 10: "", 11: "", 16: "", 17: "three from two ten", 18: "two from two ten", 19: "one from two ten", 20: "", 21: "",
		35: "", 36: "", 37: "three from four ten", 38: "two from four ten", 39: "one from four ten", 40: "", 89: "one from nine ten", 90: "", 96: "", 97: "three from hundred", 98: "two from hundred", 99: "one from hundred", 100: "", 101: "",
		107: "three from hundred ten", 198: "two from two hundred", 199: "one from two hundred", 200: "", 989: "one from nine hundred nine ten", 990: "", 996: "", 997: "three from thousand", 998: "two from thousand", 999: "one from thousand", 1000: "",
		1009: "one from thousand ten", 1099: "one from thousand hundred", 1999: "one from two thousand", 9998: "two from ten thousand", 9999: "one from ten thousand", 10000: "", 19999: "one from two ten thousand",
		99986: "", 99987: "three from nine ten nine thousand nine hundred nine ten", 99989: "one from nine ten nine thousand nine hundred nine ten", 99990: "",
	} {
		checkTaken(t, tens(), n, "from", 3, text)
	}
	for n, text := range map[int]string{
		1: "nine from ten", 2: "eight from ten", 5: "five from ten", 9: "one from ten", 10: "ten from two ten", 11: "nine from two ten", 20: "ten from three ten", 80: "ten from nine ten", 90: "ten from hundred", 91: "nine from hundred",
		100: "ten from hundred ten", 190: "ten from two hundred", 900: "ten from nine hundred ten", 990: "ten from thousand", 1000: "ten from thousand ten", 9990: "ten from ten thousand", 99980: "ten from nine ten nine thousand nine hundred nine ten",
	} {
		checkTaken(t, tens(), n, "from", 10, text)
		checkTaken(t, tens(), n, "from", 11, text)
		checkTaken(t, tens(), n, "from", 100, text)
		if n%10 == 0 {
			checkTaken(t, tens(), n, "from", 9, "")
		}
	}
}

// Promise 23: bases that do not divide each other; the nearest multiple may be one of any base, or of two.
func TestTakenFromBasesThatDoNotDivide(t *testing.T) {
	for n, text := range map[int]string{
		9: "ua by na", 10: "na by ub na", 15: "ue by ub na", 19: "ua by ub na", 20: "ue by nb", 21: "ud by nb", 24: "ua by nb", 25: "ue by nb ue", 26: "ud by nb ue", 29: "ua by nb ue", 30: "na by nb na ue",
		// 50 is twice 25 and five times 10; 75 is a multiple of 25 alone.
		40: "na by ub nb", 45: "ue by ub nb", 49: "ua by ub nb", 50: "na by ub nb na", 69: "ua by ub nb ub na", 70: "ue by uc nb", 74: "ua by uc nb", 75: "ue by uc nb ue", 79: "ua by uc nb ue", 99: "ua by ud nb", 249: "ua by na nb",
		619: "ua by ub na ud nb ub na", 620: "", 624: "", 625: "", 629: "",
	} {
		checkTaken(t, tongueBy(9, 25), n, "by", 100, text)
	}
	for n, text := range map[int]string{
		9: "ua by na", 10: "ua by nb", 11: "ui by nb ui", 18: "ub by nb ui", 19: "ua by nb ui", 20: "ub by ub nb", 21: "ua by ub nb", 22: "uh by ub nb uh", 29: "ua by ub nb uh", 30: "uc by uc nb", 32: "ua by uc nb",
		98: "ua by ui nb", 99: "ua by ui nb ua", 100: "na by na nb", 109: "ua by na nb", 110: "na by na nb na", 111: "ui by na nb na", 119: "ua by na nb na", 120: "", 121: "", 129: "",
	} {
		checkTaken(t, tongueBy(9, 11), n, "by", 10, text)
	}
	for n, text := range map[int]string{1: "ua by na", 2: "ua by nb", 3: "ua by nb ua", 4: "na by na nb", 5: "ua by na nb", 6: "na by na nb na", 7: "ua by na nb na", 8: "", 9: "", 10: ""} {
		checkTaken(t, tongueBy(1, 3), n, "by", 2, text)
	}
}

// Promise 23: multiples that have no name; one further away, which has one, is not taken instead.
func TestTakenFromMultiplesWithoutAName(t *testing.T) {
	for n, text := range map[int]string{80: "ten from nine ten", 89: "one from nine ten", 90: "", 91: "", 95: "", 98: "", 99: "", 100: "", 101: "", 109: "", 110: "", 999: "", 99989: "", 99999: ""} {
		checkTaken(t, pair(), n, "from", 100, text)
	}
	for n, text := range map[int]string{
		79: "one from eight ten", 89: "one from nine ten", 90: "", 99: "", 100: "", 109: "", 500: "", 989: "", 990: "ten from thousand", 995: "five from thousand", 999: "one from thousand", 1000: "ten from thousand ten", 1089: "one from thousand nine ten",
		1090: "", 1099: "", 1100: "", 1989: "", 1990: "ten from two thousand", 1999: "one from two thousand", 98999: "one from nine ten nine thousand", 99000: "ten from nine ten nine thousand ten", 99089: "one from nine ten nine thousand nine ten",
		99090: "", 99099: "", 99100: "", 99999: "",
	} {
		checkTaken(t, noughts(), n, "from", 10, text)
	}
	for n, text := range map[int]string{89: "one from nine ten", 90: "", 229: "", 238: "", 239: "", 240: "ten from sack", 245: "five from sack", 249: "one from sack", 250: "ten from sack ten", 489: "", 490: "ten from two sack", 499: "one from two sack"} {
		checkTaken(t, sacks(), n, "from", 100, text)
	}
	for n, text := range map[int]string{99899: "", 99979: "", 99980: "", 99988: "", 99989: "", 99990: "ui by nb", 99995: "ud by nb", 99998: "ua by nb", 99999: ""} {
		checkTaken(t, tongueBy(9, 99999), n, "by", 100, text)
	}
}

// Promise 23: MaxNamed, and multiples above it, of a base that is itself above it too.
func TestTakenFromMultiplesAboveMaxNamed(t *testing.T) {
	for _, c := range []struct {
		tongue impl.Tongue
		last   int
		before string
	}{
		{tens(), 99990, "one by nine ten nine thousand nine hundred nine ten"}, {tongueBy(9, 100, 1000, 10000), 99990, "ua by ui nd ui nc ui nb ui na"}, {tongueBy(9, 100, 10000, 100000), 99990, "ua by ui nc ui na ui nb ui na"},
		{tongueBy(9, 100000), 99990, ""}, {tongueBy(9, 999999), 99990, ""}, {tongueBy(19, 340), 99980, "ua by un na un nb na"}, {tongueBy(6, 49, 2401), 99995, "ua by ue na uf nc ud na uc nb ue na"}, {tongueBy(9, 99999), 99999, "ua by nb"},
	} {
		checkTaken(t, c.tongue, c.last-1, "by", 100, c.before)
		for n := c.last; n <= 100020; n++ {
			checkTaken(t, c.tongue, n, "by", 100, "")
		}
	}
}

// Promises 23 and 24: around the greatest number up to which all have names, as told by the tables.
func TestTakenFromAroundGreatestNamed(t *testing.T) {
	for _, tongue := range takenTongues() {
		texts := textsBy(tongue)
		taken := takenBy(tongue, texts, "by", 100)
		shorter := shorterBy(texts, taken)
		most := impl.GreatestNamed(tongue)
		for n := max(most-25, 1); n <= most+25; n++ {
			if n > 99999 {
				checkUntaken(t, tongue, n, "by", 100)
				continue
			}
			checkTaken(t, tongue, n, "by", 100, taken[n])
			checkShorter(t, tongue, n, "by", 100, shorter[n])
		}
	}
}

// Promise 23: numbers to which just the bound lacks, and one more than it; a bound of 0 takes nothing away, and one above the second base no more than that.
func TestTakenFromBounds(t *testing.T) {
	for _, tongue := range takenTongues() {
		texts := textsBy(tongue)
		all := takenBy(tongue, texts, "by", 100)
		for n := 1; n <= 130; n++ {
			checkTaken(t, tongue, n, "by", 0, "")
			checkTaken(t, tongue, n, "by", 100, all[n])
			if all[n] == "" {
				continue
			}
			lacking, _ := impl.ReadName(tongue, strings.Fields(all[n])[:1])
			if lacking > tongue.Bases[1] {
				t.Fatalf("%v, %d: %q", tongue, n, all[n])
			}
			checkTaken(t, tongue, n, "by", lacking-1, "")
			checkTaken(t, tongue, n, "by", lacking, all[n])
			checkTaken(t, tongue, n, "by", lacking+1, all[n])
		}
	}
	for n, lacking := range map[int]int{1: 9, 7: 3, 9: 1, 10: 10, 38: 2, 90: 10, 99: 1, 994: 6, 999: 1, 9995: 5, 99980: 10} {
		for bound := range 101 {
			list, ok := impl.TakenFrom(tens(), n, "from", bound)
			if ok != (bound >= lacking) {
				t.Fatalf("%d, %d: %q, %v", n, bound, list, ok)
			}
		}
	}
}

// sweep calls do with all small numbers, some of the greater ones, and the greatest ones.
func sweep(do func(n int)) {
	for n := 1; n < 99980; n += 1 + n/300 {
		do(n)
	}
	for n := 99980; n <= 99999; n++ {
		do(n)
	}
}

// Promises 23, 24 and 25: numbers of all tongues, against both names put together from tables.
func TestAllNamesByTakingAway(t *testing.T) {
	bounds := []int{3, 100, 1, 10, 2, 0, 20, 5, 99, 7}
	for i, tongue := range takenTongues() {
		from, bound := []string{"from", "z", "abcdefgh"}[i%3], bounds[i%len(bounds)]
		if slices.Contains(impl.WordsOf(tongue), from) {
			from = "zz"
		}
		texts := textsBy(tongue)
		taken := takenBy(tongue, texts, from, bound)
		shorter := shorterBy(texts, taken)
		sweep(func(n int) {
			checkTaken(t, tongue, n, from, bound, taken[n])
			checkShorter(t, tongue, n, from, bound, shorter[n])
		})
	}
}

// Promise 24: names told by hand; names by taking away that are shorter, as long and longer.
func TestShorterNamesOfTens(t *testing.T) {
	for n, text := range map[int]string{
		1: "one", 7: "seven", 9: "nine", 10: "ten", 19: "ten nine", 38: "three ten eight", 39: "three ten nine", 90: "nine ten", 97: "nine ten seven", 98: "nine ten eight", 99: "nine ten nine", 100: "hundred", 198: "hundred nine ten eight",
		289: "two hundred eight ten nine", 296: "two hundred nine ten six", 297: "three from three hundred", 298: "two from three hundred", 299: "one from three hundred", 300: "three hundred", 996: "nine hundred nine ten six", 997: "three from thousand", 998: "two from thousand",
		999: "one from thousand", 1000: "thousand", 1098: "thousand nine ten eight", 1198: "thousand hundred nine ten eight", 1298: "two from thousand three hundred", 1998: "two from two thousand", 2998: "two from three thousand", 9999: "one from ten thousand",
		98989: "nine ten eight thousand nine hundred eight ten nine", 98999: "one from nine ten nine thousand", 99899: "one from nine ten nine thousand nine hundred", 99999: "nine ten nine thousand nine hundred nine ten nine",
	} {
		checkShorter(t, tens(), n, "from", 3, text)
	}
	for n, text := range map[int]string{
		10: "ten", 90: "nine ten", 100: "hundred", 280: "two hundred eight ten", 290: "two hundred nine ten", 291: "nine from three hundred", 295: "five from three hundred", 299: "one from three hundred", 890: "eight hundred nine ten", 990: "ten from thousand", 991: "nine from thousand", 1290: "thousand two hundred nine ten",
		1990: "ten from two thousand",
	} {
		checkShorter(t, tens(), n, "from", 10, text)
		checkShorter(t, tens(), n, "from", 100, text)
	}
	checkShorter(t, tens(), 990, "from", 9, "nine hundred nine ten")
	checkShorter(t, tens(), 298, "from", 1, "two hundred nine ten eight")
	checkShorter(t, tens(), 299, "from", 1, "one from three hundred")
}

// Promise 24: numbers that have a name by taking away and no other one, numbers that have just the other one, and numbers that have neither.
func TestNumbersWithOneNameOrNone(t *testing.T) {
	for n, text := range map[int]string{
		95: "nine ten five", 99: "nine ten nine", 100: "", 500: "", 989: "", 990: "", 997: "", 998: "two from thousand", 999: "one from thousand", 1000: "thousand", 1099: "thousand nine ten nine", 1100: "", 1997: "", 1998: "two from two thousand",
		1999: "one from two thousand", 2000: "two thousand", 98999: "one from nine ten nine thousand", 99099: "nine ten nine thousand nine ten nine", 99100: "", 99999: "",
	} {
		checkShorter(t, noughts(), n, "from", 2, text)
	}
	for n, text := range map[int]string{999: "", 998: "", 990: "", 99: "nine ten nine", 1000: "thousand"} {
		checkShorter(t, noughts(), n, "from", 0, text)
	}
	for n, text := range map[int]string{89: "eight ten nine", 90: "nine ten", 98: "nine ten eight", 99: "nine ten nine", 100: "", 101: "", 999: "", 99999: ""} {
		checkShorter(t, pair(), n, "from", 100, text)
	}
	for n, text := range map[int]string{99: "ui na ui", 100: "", 99989: "", 99990: "ui by nb", 99998: "ua by nb", 99999: "nb"} {
		checkShorter(t, tongueBy(9, 99999), n, "by", 100, text)
	}
	for n, text := range map[int]string{3: "na ua", 4: "ua by nb", 5: "nb", 9: "ua by na nb", 11: "na nb ua", 14: "ua by na ua nb", 20: ""} {
		checkShorter(t, tongueBy(1, 5), n, "by", 1, text)
	}
}

// Promise 24: no name grows longer, each is one of the two, and with the bound 0 it is the name.
func TestNoNameGrowsLonger(t *testing.T) {
	for _, tongue := range takenTongues() {
		for n := 1; n <= 99999; n += 1 + n/100 {
			name, named := impl.NameOf(tongue, n)
			for _, bound := range []int{0, 1, 4, 100} {
				list, ok := impl.ShorterName(tongue, n, "by", bound)
				taken, okTaken := impl.TakenFrom(tongue, n, "by", bound)
				if ok != (named || okTaken) || named && len(list) > len(name) || !slices.Equal(list, name) && !slices.Equal(list, taken) {
					t.Fatalf("%v, %d, %d: %q, %v of %q and %q", tongue, n, bound, list, ok, name, taken)
				}
				if bound == 0 && (ok != named || !slices.Equal(list, name)) {
					t.Fatalf("%v, %d: with the bound 0 %q, %v, and not %q", tongue, n, list, ok, name)
				}
			}
		}
	}
}

// Promises 23, 24, 25 and 26: in tongues of one base nothing is taken away, and each name is as it was.
func TestTakenFromUnitsAlone(t *testing.T) {
	for units := 1; units <= 20; units++ {
		tongue := unitsAlone(numbered("u", units)...)
		for _, bound := range []int{0, 1, units, 100} {
			for n := 1; n <= units+22; n++ {
				checkTaken(t, tongue, n, "by", bound, "")
				text := ""
				if n <= units {
					text = tongue.Units[n-1]
				}
				checkShorter(t, tongue, n, "by", bound, text)
			}
			for _, row := range [][]string{{"by"}, {"ua", "by"}, {"by", "ua"}, {"ua", "by", "ua"}, {"ua", "by", tongue.Units[units-1]}, {"ua", "ua"}, {"na"}} {
				checkReadShorter(t, tongue, row, "by", bound, -1)
			}
			checkShortened(t, tongue, 1, "by", bound, 0)
			checkShortened(t, tongue, 2000, "by", bound, 0)
		}
	}
}

// Promises 23 and 24: 0, numbers below 0, and those behind MaxNamed, also where what they would be taken from has a name.
func TestTakenNumbersOutside(t *testing.T) {
	for _, tongue := range takenTongues() {
		for _, n := range append(unnamed(), -3, -4, -7, -8, -9, -11, -20, -99, -999, -99999, 100003, 100009) {
			for _, bound := range []int{0, 1, 3, 100} {
				checkUntaken(t, tongue, n, "by", bound)
			}
		}
	}
}

// checkNothingTaken fails if anything is taken away, shortened, read or counted in a tongue with a word and a bound.
func checkNothingTaken(t *testing.T, tongue impl.Tongue, from string, bound int) {
	t.Helper()
	for _, n := range []int{-1, 0, 1, 2, 3, 7, 8, 9, 10, 11, 19, 38, 99, 299, 999, 1000, 9999, 99989, 99999, 100000} {
		checkUntaken(t, tongue, n, from, bound)
		if name, ok := impl.NameOf(tongue, n); ok {
			checkReadShorter(t, tongue, name, from, bound, -1)
			checkReadShorter(t, tongue, slices.Concat(tongue.Units[:1], []string{from}, name), from, bound, -1)
		}
	}
	for _, word := range append(append(slices.Clone(tongue.Units), tongue.Names...), "a", "one", "", from) {
		checkReadShorter(t, tongue, []string{word}, from, bound, -1)
		checkReadShorter(t, tongue, []string{word, from, word}, from, bound, -1)
	}
	checkReadShorter(t, tongue, nil, from, bound, -1)
	for _, most := range []int{math.MinInt, -1, 0, 1, 2, 300, 2000, 2001, math.MaxInt} {
		checkShortened(t, tongue, most, from, bound, -1)
	}
}

// Promises 23, 24, 25 and 26: tongues that are none.
func TestTakenFromWrongTongues(t *testing.T) {
	for _, tongue := range wrongTongues() {
		for _, bound := range []int{0, 3, 100} {
			checkNothingTaken(t, tongue, "by", bound)
		}
	}
}

// Promises 23, 24, 25 and 26: bounds below 0 and above 100, whether anything lacks so much or not.
func TestTakenBoundsOutside(t *testing.T) {
	for _, tongue := range append(goodTongues(), pair(), noughts()) {
		for _, bound := range []int{-1, -2, -100, math.MinInt32, math.MinInt, 101, 102, 1000, math.MaxInt32, math.MaxInt} {
			checkNothingTaken(t, tongue, "by", bound)
		}
	}
}

// Promises 23, 24, 25 and 26: the word is a word, and none of the tongue.
func TestWordsOfTakingAway(t *testing.T) {
	for _, tongue := range append(goodTongues(), pair(), noughts()) {
		for _, word := range impl.WordsOf(tongue) {
			checkNothingTaken(t, tongue, word, 3)
		}
		for _, from := range append(strangers(), "abcdefghi", "From", "FROM", "fr om", "from ", " from", "a1", "a-b", "`", "{", "@", "Z", "\x00", "z\xff", "from\n", strings.Repeat("z", 9), strings.Repeat("z", 1000)) {
			if !isWord(from) {
				checkNothingTaken(t, tongue, from, 3)
			}
		}
	}
	for _, from := range []string{"a", "z", "from", "fromfrom", "abcdefgh", "zzzzzzzz", "on", "ones", "tens", "te", "hundre", "oneten"} {
		checkTaken(t, tens(), 38, from, 3, "two "+from+" four ten")
		checkTaken(t, tens(), 999, from, 3, "one "+from+" thousand")
		checkShorter(t, tens(), 999, from, 3, "one "+from+" thousand")
		checkShorter(t, tens(), 38, from, 3, "three ten eight")
		checkShortened(t, tens(), 300, from, 3, 3)
	}
	// Another word is none of the name.
	for _, text := range []string{"one form thousand", "two form three hundred", "form", "one form", "one thousand form"} {
		checkReadShorter(t, tens(), strings.Fields(text), "from", 3, -1)
	}
	checkReadShorter(t, tens(), []string{"one", "form", "thousand"}, "form", 3, 999)
}

// checkReadTaken fails unless a text of the tongue of tens, with the word from and a bound, is read as a number, or refused if that is -1.
func checkReadTaken(t *testing.T, text string, bound int, want int) {
	t.Helper()
	checkReadShorter(t, tens(), strings.Fields(text), "from", bound, want)
}

// Promise 25: names by taking away that are as long or longer, and names of numbers that have a shorter one.
func TestReadNamesThatAreNotTheShorterOnes(t *testing.T) {
	for _, text := range []string{
		"one from ten", "two from ten", "two from four ten", "one from hundred", "two from hundred", "three from two hundred", "ten from hundred", "ten from two ten", "one from two ten", "one from three hundred ten", "two from thousand hundred", "two from thousand two hundred",
		"nine hundred nine ten nine", "nine hundred nine ten eight", "two hundred nine ten nine", "thousand nine hundred nine ten nine", "nine thousand nine hundred nine ten nine", "nine hundred nine ten",
	} {
		checkReadTaken(t, text, 10, -1)
	}
	// With a lesser bound, a name is the shorter one again.
	checkReadTaken(t, "nine hundred nine ten", 9, 990)
	checkReadTaken(t, "nine hundred nine ten eight", 1, 998)
	checkReadTaken(t, "nine hundred nine ten nine", 1, -1)
	checkReadTaken(t, "nine hundred nine ten nine", 0, 999)
	for _, tongue := range takenTongues() {
		for n := 1; n <= 99999; n += 1 + n/60 {
			name, named := impl.NameOf(tongue, n)
			taken, okTaken := impl.TakenFrom(tongue, n, "by", 100)
			if !named || !okTaken {
				continue
			}
			wantName, wantTaken := n, -1
			if len(taken) < len(name) {
				wantName, wantTaken = -1, n
			}
			checkReadShorter(t, tongue, name, "by", 100, wantName)
			checkReadShorter(t, tongue, taken, "by", 100, wantTaken)
		}
	}
}

// Promise 25: what is taken away is more than the bound, or is taken from another number than the nearest multiple, or from none.
func TestReadTakenFromOtherNumbers(t *testing.T) {
	for text, n := range map[string]int{"one from thousand": 999, "three from thousand": 997, "three from three hundred": 297, "two from thousand three hundred": 1298, "one from ten thousand": 9999} {
		checkReadTaken(t, text, 3, n)
	}
	for _, text := range []string{
		"four from thousand", "five from three hundred", "ten from thousand", "nine ten from thousand", "hundred from thousand", "one from thousand one", "two from thousand one", "one from thousand five", "one from one thousand", "one from thousand nine ten nine",
		"one from one", "one from two", "two from one", "three from nine", "nine from one", "ten from one", "ten from ten", "ten from nine", "thousand from thousand", "thousand from ten", "thousand from one", "one from nine", "nine ten nine thousand nine hundred nine ten nine from one",
		"one from ten ten thousand", "one from hundred thousand", "one from hundred hundred", "ten ten from thousand", "one one from thousand", "one ten from thousand", "one ten from three hundred", "two one from thousand",
	} {
		checkReadTaken(t, text, 3, -1)
	}
	for _, text := range []string{"ten one from thousand", "two ten from thousand", "hundred from thousand", "nine ten nine from thousand", "ten from two hundred", "ten one from two thousand", "hundred from nine ten nine thousand nine hundred"} {
		checkReadTaken(t, text, 100, -1)
	}
	checkReadTaken(t, "ten from thousand", 100, 990)
	checkReadTaken(t, "ten from thousand", 9, -1)
	checkReadTaken(t, "four from thousand", 4, 996)
	checkReadTaken(t, "one from thousand", 1, 999)
	checkReadTaken(t, "one from thousand", 0, -1)
}

// Promise 25: the word at the beginning, at the end, twice, and in another place.
func TestTheWordOfTakingInAnotherPlace(t *testing.T) {
	for _, text := range []string{
		"from", "from from", "from from from", "from thousand", "from one", "one from", "thousand from", "from one thousand", "one thousand from", "from one from thousand", "one from thousand from", "one from from thousand", "one from one from thousand",
		"one from thousand from thousand", "one from two from thousand", "one from two from three hundred", "two from three from hundred", "two three from hundred", "from two three hundred", "two three hundred from", "two hundred from nine ten", "nine hundred from nine ten nine", "from nine hundred", "nine from hundred nine ten nine",
	} {
		checkReadTaken(t, text, 3, -1)
	}
	for i, tongue := range takenTongues() {
		bound := []int{1, 3, 100}[i%3]
		numbers := numbersShorter(t, tongue, "by", bound)
		for _, n := range []int{1, 2, 7, 15, 99, 239, 298, 999, 1998, 12999, 98999, 99999} {
			taken, _ := impl.TakenFrom(tongue, n, "by", bound)
			name, _ := impl.NameOf(tongue, n)
			for _, list := range [][]string{taken, name, slices.DeleteFunc(slices.Clone(taken), func(word string) bool { return word == "by" })} {
				for place := range len(list) + 1 {
					with := slices.Insert(slices.Clone(list), place, "by")
					checkReadShorter(t, tongue, with, "by", bound, readAs(numbers, strings.Join(with, " ")))
				}
			}
		}
	}
}

// Promise 25: words in the wrong order, where the right order is a name by taking away.
func TestReadTakenInTheWrongOrder(t *testing.T) {
	for _, text := range []string{"thousand from one", "from thousand one", "one thousand from", "three hundred from two", "two from hundred three", "three from hundred two", "two three from hundred", "hundred from two three", "hundred three from two", "ten thousand from one", "one from thousand ten"} {
		checkReadTaken(t, text, 3, -1)
	}
	// All orders of the words of one name: some are read as what they are.
	numbers := numbersShorter(t, tens(), "from", 3)
	words := strings.Fields("two from thousand nine hundred four")
	byTaking, named := 0, 0
	ordersOf(words, func(list []string) {
		text := strings.Join(list, " ")
		want := readAs(numbers, text)
		checkReadTaken(t, text, 3, want)
		if want != -1 {
			named++
			if slices.Contains(list, "from") {
				byTaking++
			}
		}
	})
	if byTaking == 0 || named <= byTaking || named > 200 {
		t.Fatalf("%d orders are names, %d by taking away", named, byTaking)
	}
}

// Promise 25: texts that are neither words of the tongue nor the word, alone, at each place of a name and instead of each word of it.
func TestReadTakenStrangers(t *testing.T) {
	for _, tongue := range []impl.Tongue{tens(), noughts(), tongueBy(1, 4, 16, 256), tongueBy(9, 25)} {
		for _, stranger := range append(strangers(), "form", "By", "by ", "byby", "one by", "by ten", "one by thousand") {
			if slices.Contains(impl.WordsOf(tongue), stranger) {
				continue
			}
			checkReadShorter(t, tongue, []string{stranger}, "by", 3, -1)
			for _, n := range []int{1, 3, 15, 31, 38, 49, 87, 255, 298, 999, 1998, 12999, 98999} {
				name, ok := impl.ShorterName(tongue, n, "by", 3)
				if !ok {
					continue
				}
				putEverywhere(name, stranger, func(list []string) { checkReadShorter(t, tongue, list, "by", 3, -1) })
			}
		}
	}
	checkReadShorter(t, pair(), strings.Fields("one from thousand"), "from", 3, -1)
	checkReadShorter(t, pair(), strings.Fields("one from hundred"), "from", 3, -1)
}

// Promise 25: no words, one word, 40 words and more than 40.
func TestReadTakenManyWords(t *testing.T) {
	for _, tongue := range takenTongues() {
		checkReadShorter(t, tongue, nil, "by", 3, -1)
		checkReadShorter(t, tongue, []string{}, "by", 3, -1)
		checkReadShorter(t, tongue, []string{""}, "by", 3, -1)
		checkReadShorter(t, tongue, []string{"by"}, "by", 3, -1)
		words := impl.WordsOf(tongue)
		for _, word := range words {
			checkReadShorter(t, tongue, []string{word}, "by", 3, readAs(numbersOfWords(tongue), word))
		}
		last := words[len(words)-1]
		for _, many := range []int{33, 39, 40, 41, 42, 80, 1000} {
			for _, row := range [][]string{words[:1], {last}, words, {"by"}, {words[0], "by", last}, {words[0], "by"}, {"by", last}} {
				checkReadShorter(t, tongue, slices.Repeat(row, many)[:many], "by", 3, -1)
			}
		}
	}
	for many := range 60 {
		for _, word := range []string{"one", "thousand", "from"} {
			for _, text := range []string{"one from thousand", "nine ten nine thousand nine hundred nine ten nine"} {
				name := strings.Fields(text)
				checkReadShorter(t, tens(), append(slices.Clone(name), slices.Repeat([]string{word}, many+1)...), "from", 3, -1)
				checkReadShorter(t, tens(), append(slices.Repeat([]string{word}, many+1), name...), "from", 3, -1)
			}
		}
	}
	checkReadShorter(t, tens(), slices.Repeat([]string{"from"}, 200000), "from", 3, -1)
	checkReadShorter(t, tens(), append(slices.Repeat([]string{"one"}, 200000), "from", "thousand"), "from", 3, -1)
	checkReadShorter(t, tens(), append([]string{"one", "from"}, slices.Repeat([]string{"thousand"}, 200000)...), "from", 3, -1)
}

// Promise 25: all rows of a few words of small tongues and the word, against a table of all shorter names.
func TestReadTakenAllRowsOfWords(t *testing.T) {
	for _, c := range []struct {
		tongue impl.Tongue
		most   int
		bound  int
	}{
		{tongueBy(1), 8, 100}, {tongueBy(2), 7, 2}, {tongueBy(1, 3), 7, 1}, {tongueBy(1, 4), 7, 2}, {tongueBy(1, 5), 7, 1}, {tongueBy(1, 5), 7, 100}, {tongueBy(2, 9), 6, 3}, {tongueBy(2, 21), 6, 2}, {tongueBy(1, 4, 16), 6, 1}, {tongueBy(1, 4, 16), 6, 2},
		{tongueBy(1, 4, 16), 6, 0}, {tongueBy(2, 7, 11), 6, 100}, {tongueBy(3, 16), 5, 1}, {tongueBy(3, 16), 5, 4}, {tongueBy(1, 4, 16, 1000), 6, 2}, {unitsAlone("a", "b", "c"), 6, 100},
	} {
		numbers := numbersShorter(t, c.tongue, "by", c.bound)
		found := map[string]bool{}
		listsUpTo(c.most, append(impl.WordsOf(c.tongue), "by"), func(list []string) {
			text := strings.Join(list, " ")
			want := readAs(numbers, text)
			checkReadShorter(t, c.tongue, list, "by", c.bound, want)
			if want != -1 {
				found[text] = true
			}
		})
		for text := range numbers {
			if wordsIn(text) <= c.most && !found[text] {
				t.Fatalf("%v: %q was not among the rows", c.tongue, text)
			}
		}
	}
}

// Promise 25: both names with one word more, less, or another one, or two words beside each other exchanged, against a table of all shorter names.
func TestReadChangedNamesByTakingAway(t *testing.T) {
	for i, tongue := range takenTongues() {
		bound := []int{2, 10, 100}[i%3]
		numbers := numbersShorter(t, tongue, "by", bound)
		words := append(impl.WordsOf(tongue), "by")
		check := func(list []string) {
			t.Helper()
			checkReadShorter(t, tongue, list, "by", bound, readAs(numbers, strings.Join(list, " ")))
		}
		for _, n := range []int{1, 15, 99, 298, 999, 1998, 98999} {
			name, _ := impl.NameOf(tongue, n)
			taken, _ := impl.TakenFrom(tongue, n, "by", bound)
			changesOf(name, words, check)
			changesOf(taken, words, check)
		}
	}
}

// Promise 25: the shorter names of all numbers of one tongue are read, and no two are equal.
func TestReadAllShorterNamesOfTens(t *testing.T) {
	seen := map[string]bool{}
	byTaking := 0
	for n := 1; n <= 99999; n++ {
		name, ok := impl.ShorterName(tens(), n, "from", 10)
		text := strings.Join(name, " ")
		if !ok || seen[text] {
			t.Fatalf("%d: %q, %v, or named before", n, text, ok)
		}
		seen[text] = true
		if slices.Contains(name, "from") {
			byTaking++
		}
		checkReadShorter(t, tens(), name, "from", 10, n)
	}
	if byTaking == 0 {
		t.Fatal("nothing is named by taking away")
	}
}

// Promise 26: numbers counted by hand.
func TestShortenedUpTo(t *testing.T) {
	for most, want := range map[int]int{1: 0, 2: 0, 99: 0, 100: 0, 200: 0, 296: 0, 297: 1, 298: 2, 299: 3, 300: 3, 396: 3, 397: 4, 399: 6, 899: 21, 996: 21, 997: 22, 999: 24, 1000: 24, 1200: 24, 1296: 24, 1297: 25, 1899: 45, 1999: 48, 2000: 48} {
		checkShortened(t, tens(), most, "from", 3, want)
	}
	for bound, want := range []int{0, 8, 16, 24, 32, 40, 48, 56, 64, 72, 73, 73} {
		checkShortened(t, tens(), 1000, "from", bound, want)
	}
	checkShortened(t, tens(), 1000, "from", 100, 73)
	// 15 is one from sixteen, and 14 two from sixteen.
	for most, want := range map[int]int{13: 0, 14: 0, 15: 1, 16: 1, 31: 2} {
		checkShortened(t, tongueBy(1, 4, 16), most, "by", 1, want)
	}
	for most, want := range map[int]int{13: 0, 14: 1, 15: 2, 16: 2, 29: 2, 30: 3, 31: 4} {
		checkShortened(t, tongueBy(1, 4, 16), most, "by", 2, want)
	}
	for _, most := range []int{0, -1, -2, -300, -2000, 2001, 2002, 3000, 99999, 100000, math.MaxInt32, math.MinInt32, math.MaxInt, math.MinInt} {
		for _, tongue := range takenTongues() {
			checkShortened(t, tongue, most, "by", 3, -1)
			checkShortened(t, tongue, most, "by", 0, -1)
		}
	}
}

// Promise 26: where not all numbers up to one have names; one that has a name by taking away alone has none that it is shorter than.
func TestShortenedUpToWhereSomeHaveNoNames(t *testing.T) {
	checkShorter(t, noughts(), 999, "from", 100, "one from thousand")
	checkShorter(t, noughts(), 1999, "from", 100, "one from two thousand")
	checkShortened(t, noughts(), 2000, "from", 100, 0)
	checkShortened(t, pair(), 2000, "from", 100, 0)
	checkShortened(t, tongueBy(1, 5), 2000, "by", 100, 0)
	some := tongueBy(1, 4, 16, 1000)
	checkShorter(t, some, 255, "by", 1, "na ua nb na ua nc na ua nb na ua")
	checkShorter(t, some, 256, "by", 1, "")
	checkShorter(t, some, 999, "by", 1, "ua by nd")
	checkShorter(t, some, 1015, "by", 1, "ua by nd nc")
	before := impl.ShortenedUpTo(some, 255, "by", 1)
	if before < 1 {
		t.Fatalf("%d are shortened", before)
	}
	for most, want := range map[int]int{256: before, 300: before, 998: before, 999: before, 1000: before, 1014: before, 1015: before + 1} {
		checkShortened(t, some, most, "by", 1, want)
	}
}

// Promise 26: in all tongues, against tables; with a bound of one more, and up to one number more, no less; with the bound 0 none.
func TestAGreaterBoundShortensNoFewer(t *testing.T) {
	shortened, without := 0, 0
	for _, tongue := range takenTongues() {
		texts := textsBy(tongue)
		for _, bound := range []int{0, 1, 10, 100} {
			counts := shortenedBy(texts, takenBy(tongue, texts, "by", bound))
			for _, most := range []int{1, 2, 3, 16, 99, 100, 420, 2000} {
				checkShortened(t, tongue, most, "by", bound, counts[most])
			}
			if bound == 0 && counts[2000] != 0 {
				t.Fatalf("%v: %d are shortened with the bound 0", tongue, counts[2000])
			}
			if bound == 100 && counts[2000] > 0 {
				shortened++
				if slices.Contains(texts[1:2001], "") {
					without++
				}
			}
		}
		before := 0
		// Above the second base, which is 21 at most, a greater bound changes nothing.
		for _, bound := range []int{0, 1, 2, 3, 4, 5, 6, 7, 8, 9, 10, 11, 12, 16, 19, 20, 21, 22, 50, 99, 100} {
			now := impl.ShortenedUpTo(tongue, 120, "by", bound)
			if now < before || bound == 0 && now != 0 {
				t.Fatalf("%v: %d are shortened with the bound %d, %d with a lesser one", tongue, now, bound, before)
			}
			before = now
		}
	}
	if shortened < 10 || without < 3 {
		t.Fatalf("only in %d tongues anything is shortened, in %d of them without names for all", shortened, without)
	}
	before := 0
	for most := 1; most <= 420; most++ {
		now := impl.ShortenedUpTo(tens(), most, "from", 10)
		if now < before || now > before+1 {
			t.Fatalf("%d are shortened up to %d, %d up to one less", now, most, before)
		}
		before = now
	}
}

// No function of the chapter writes into a slice of a tongue or into a list, whether it is valid or not.
func TestTakingArgumentsStay(t *testing.T) {
	for _, given := range append(takenTongues(), wrongTongues()...) {
		g := guardTongue(given)
		rows := append(rowsFor(given), []string{"by"}, []string{"one", "by", "ten"}, []string{"ua", "by", "na"}, []string{"by", "ua", "na"}, []string{"ua", "na", "by"}, []string{"a", "by", "by", "b"})
		for _, n := range []int{math.MinInt, -1, 0, 1, 2, 4, 15, 99, 298, 999, 1998, 98999, 99998, 99999, 100000, math.MaxInt} {
			for _, bound := range []int{-1, 0, 2, 100, 101} {
				for _, from := range []string{"by", "one", "ua", "", "By"} {
					taken, _ := impl.TakenFrom(g.tongue(), n, from, bound)
					g.check(t, "TakenFrom")
					rows = append(rows, taken)
					impl.ShorterName(g.tongue(), n, from, bound)
					g.check(t, "ShorterName")
				}
			}
		}
		for _, row := range rows {
			list := guard(row, spareWord)
			for _, from := range []string{"by", "ua", ""} {
				impl.ReadShorter(g.tongue(), list.list, from, 100)
				g.check(t, "ReadShorter")
				list.check(t, "ReadShorter, list")
			}
		}
		impl.ShortenedUpTo(g.tongue(), 50, "by", 100)
		g.check(t, "ShortenedUpTo")
	}
}

// What is written into a name by taking away or a shorter one, and behind it, is found neither in the tongue nor in other names.
func TestNamesByTakingAwayAreNew(t *testing.T) {
	for _, given := range takenTongues() {
		for _, name := range []func(impl.Tongue, int, string, int) ([]string, bool){impl.TakenFrom, impl.ShorterName} {
			for _, n := range []int{1, 2, 4, 9, 15, 38, 99, 100, 298, 999, 1998, 98999, 99998, 99999} {
				g := guardTongue(given)
				first, _ := name(g.tongue(), n, "by", 100)
				want := slices.Clone(first)
				second, _ := name(g.tongue(), n, "by", 100)
				taken, _ := impl.TakenFrom(g.tongue(), n, "by", 100)
				wantTaken := slices.Clone(taken)
				plain, _ := impl.NameOf(g.tongue(), n)
				wantPlain := slices.Clone(plain)
				scribble(first, otherWord)
				g.check(t, "a name")
				if !slices.Equal(second, want) || !slices.Equal(taken, wantTaken) || !slices.Equal(plain, wantPlain) {
					t.Fatalf("%v, %d: names share memory: %q, %q, %q", given, n, second, taken, plain)
				}
				if again, _ := name(g.tongue(), n, "by", 100); !slices.Equal(again, want) {
					t.Fatalf("%v, %d: named again %q, not %q", given, n, again, want)
				}
				scribbleTongue(g.tongue())
				if !slices.Equal(second, want) {
					t.Fatalf("%v, %d: a name shares memory with the tongue: %q", given, n, second)
				}
			}
		}
	}
}

// An answer depends on the arguments alone, whatever was asked before: with other words and bounds, and in other tongues of equal words.
func TestTakingKeepsNoState(t *testing.T) {
	one := impl.Tongue{Units: []string{"a", "b"}, Bases: []int{1, 3}, Names: []string{"c"}}
	two := impl.Tongue{Units: []string{"c"}, Bases: []int{1, 2, 4, 16}, Names: []string{"b", "a", "d"}}
	for range 3 {
		checkTaken(t, one, 5, "by", 1, "a by b c")
		checkTaken(t, one, 5, "y", 1, "a y b c")
		checkTaken(t, one, 5, "by", 0, "")
		checkTaken(t, one, 5, "c", 1, "")
		checkTaken(t, two, 5, "by", 1, "c by a b")
		checkTaken(t, impl.Tongue{}, 5, "by", 1, "")
		checkShorter(t, two, 15, "by", 1, "c by d")
		checkShorter(t, two, 15, "y", 1, "c y d")
		checkShorter(t, two, 15, "by", 0, "b c a b c")
		checkReadShorter(t, two, []string{"c", "by", "d"}, "y", 1, -1)
		checkReadShorter(t, two, []string{"c", "by", "d"}, "by", 0, -1)
		checkReadShorter(t, one, []string{"c", "by", "d"}, "by", 1, -1)
		checkReadShorter(t, impl.Tongue{}, []string{"c", "by", "d"}, "by", 1, -1)
		checkShortened(t, two, 16, "by", 1, 1)
		checkShortened(t, two, 16, "by", 2, 2)
		checkShortened(t, two, 16, "by", 0, 0)
		checkShortened(t, one, 16, "by", 2, 0)
		checkShortened(t, impl.Tongue{}, 16, "by", 1, -1)
	}
}
