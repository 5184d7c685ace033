package tests

import (
	"math"
	"slices"
	"strings"
	"testing"

	"loop.example/numberwords/impl"
)

// turnableTongues are tongues of two bases or more, each of which divides the next one.
func turnableTongues() []impl.Tongue {
	list := []impl.Tongue{
		pair(), hundreds(), tongueBy(3), tongueBy(2, 9), tongueBy(2, 21), tongueBy(1, 4, 16), tongueBy(1, 4, 8, 800), tongueBy(1, 4, 200, 400), tongueBy(20, 42), tongueBy(20, 42, 84, 168),
		tongueBy(19, 340), tongueBy(9, 20), tongueBy(9, 1000, 100000), tongueBy(9, 500000), tongueBy(9, 100, 1000, 10000), tongueBy(15, 256, 4096, 65536), sacks(),
	}
	for _, tongue := range namedTongues() {
		if dividing(tongue.Bases) {
			list = append(list, tongue)
		}
	}
	return list
}

// dividing reports whether there are two bases or more, each a multiple of the one before.
func dividing(bases []int) bool {
	for i := 1; i < len(bases); i++ {
		if bases[i]/bases[i-1]*bases[i-1] != bases[i] {
			return false
		}
	}
	return len(bases) > 1
}

// straightTongues are tongues of one base, and tongues whose bases do not each divide the next one.
func straightTongues() []impl.Tongue {
	list := []impl.Tongue{
		tongueBy(9, 25), tongueBy(9, 101), tongueBy(9, 20, 25), tongueBy(9, 20, 50), tongueBy(9, 25, 50), tongueBy(9, 25, 100), tongueBy(9, 100, 1001), tongueBy(9, 100, 1000, 1500), tongueBy(1, 3), tongueBy(2, 4),
		tongueBy(1, 4, 6), tongueBy(1, 4, 8, 12),
	}
	for _, tongue := range namedTongues() {
		if !dividing(tongue.Bases) {
			list = append(list, tongue)
		}
	}
	return list
}

// sacks is a tongue in which some numbers that are taken from the third base on have no names.
func sacks() impl.Tongue {
	return impl.Tongue{Units: tens().Units, Bases: []int{1, 10, 250}, Names: []string{"ten", "sack"}}
}

// turnedBy makes the texts of the turned names of all numbers up to MaxNamed, "" for none, without taking any number apart:
// to each multiple of the third base, and to none of it, each multiple of the second base and each unit is put.
func turnedBy(tongue impl.Tongue, and string) []string {
	texts := textsBy(tongue)
	turned := slices.Clone(texts)
	second, third := tongue.Bases[1], 100000
	if len(tongue.Bases) > 2 {
		third = tongue.Bases[2]
	}
	for front := 0; front < 100000; front += third {
		for met := second; met < third && front+met < 100000; met += second {
			for i, unit := range tongue.Units {
				n := front + met + i + 1
				if n > 99999 {
					continue
				}
				turned[n] = ""
				if texts[met] != "" && front == 0 {
					turned[n] = unit + " " + and + " " + texts[met]
				} else if texts[met] != "" && texts[front] != "" {
					turned[n] = texts[front] + " " + unit + " " + and + " " + texts[met]
				}
			}
		}
	}
	return turned
}

// numbersTurned tells the number of each turned text of a tongue.
func numbersTurned(t *testing.T, tongue impl.Tongue, and string) map[string]int {
	t.Helper()
	return numbersIn(t, tongue, turnedBy(tongue, and))
}

// checkReadTurned fails unless words are read as a number, or refused if that is -1.
func checkReadTurned(t *testing.T, tongue impl.Tongue, list []string, and string, want int) {
	t.Helper()
	if n, ok := impl.ReadTurned(tongue, list, and); n != want || ok != (want != -1) {
		t.Fatalf("%v, %q: ReadTurned of the %d words %.300q: %d, %v, not %d", tongue, and, len(list), list, n, ok, want)
	}
}

// checkTurned fails unless a number has the turned name with a text, or none if that is "", by all functions that tell of it.
func checkTurned(t *testing.T, tongue impl.Tongue, n int, and string, text string) {
	t.Helper()
	words := strings.Fields(text)
	list, ok := impl.TurnedName(tongue, n, and)
	if ok != (text != "") || !slices.Equal(list, words) {
		t.Fatalf("%v, %d, %q: TurnedName %q, %v, not %q", tongue, n, and, list, ok, text)
	}
	if got, want := impl.IsTurned(tongue, n, and), slices.Contains(words, and); got != want {
		t.Fatalf("%v, %d, %q: IsTurned %v, not %v", tongue, n, and, got, want)
	}
	if text != "" {
		checkReadTurned(t, tongue, words, and, n)
	}
}

// Promises 20, 21 and 22: names told by hand; numbers without units, and with a unit and without the second base, below the third base and above it.
func TestTurnedNamesOfTens(t *testing.T) {
	for n, text := range map[int]string{
		1: "one", 3: "three", 9: "nine", 10: "ten", 11: "one and ten", 13: "three and ten", 19: "nine and ten", 20: "two ten", 21: "one and two ten", 30: "three ten", 90: "nine ten", 99: "nine and nine ten",
		100: "hundred", 101: "hundred one", 104: "hundred four", 109: "hundred nine", 110: "hundred ten", 111: "hundred one and ten", 120: "hundred two ten", 121: "hundred one and two ten",
		200: "two hundred", 204: "two hundred four", 211: "two hundred one and ten", 230: "two hundred three ten", 234: "two hundred four and three ten", 999: "nine hundred nine and nine ten",
		1000: "thousand", 1001: "thousand one", 1010: "thousand ten", 1011: "thousand one and ten", 1100: "thousand hundred", 1101: "thousand hundred one", 1111: "thousand hundred one and ten",
		2034: "two thousand four and three ten", 10000: "ten thousand", 10004: "ten thousand four", 10020: "ten thousand two ten", 10024: "ten thousand four and two ten",
		// How often a greater base is taken is not turned.
		11000: "ten one thousand", 12000: "ten two thousand", 12012: "ten two thousand two and ten", 21000: "two ten one thousand", 21021: "two ten one thousand one and two ten",
		11111: "ten one thousand hundred one and ten", 99000: "nine ten nine thousand", 99999: "nine ten nine thousand nine hundred nine and nine ten",
	} {
		checkTurned(t, tens(), n, "and", text)
	}
	for n, text := range map[int]string{
		1034: "ten hundred four and three ten", 1104: "ten one hundred four", 1100: "ten one hundred", 3210: "three ten two hundred ten", 3211: "three ten two hundred one and ten", 9999: "nine ten nine hundred nine and nine ten",
		10000: "", 10001: "", 10011: "", 10110: "", 99999: "",
	} {
		checkTurned(t, hundreds(), n, "and", text)
	}
}

// Promises 20 and 22: in tongues of two bases the whole number is turned, however often the second base is taken.
func TestTurnedNamesOfTwoBases(t *testing.T) {
	for n, text := range map[int]string{
		1: "one", 9: "nine", 10: "ten", 11: "one and ten", 20: "two ten", 34: "four and three ten", 90: "nine ten", 98: "eight and nine ten", 99: "nine and nine ten", 100: "", 101: "", 109: "", 110: "", 111: "", 234: "", 99999: "",
	} {
		checkTurned(t, pair(), n, "and", text)
	}
	two := impl.Tongue{Units: []string{"a"}, Bases: []int{1, 2}, Names: []string{"b"}}
	for n, text := range map[int]string{1: "a", 2: "b", 3: "a c b", 4: "", 5: "", 6: "", 7: "", 99999: ""} {
		checkTurned(t, two, n, "c", text)
	}
	twenty := tongueBy(20)
	for n, text := range map[int]string{
		20: "ut", 21: "na", 22: "ua x na", 41: "ut x na", 42: "ub na", 43: "ua x ub na", 419: "ut x us na", 420: "ut na", 421: "ua x ut na", 440: "ut x ut na", 441: "", 442: "", 461: "",
	} {
		checkTurned(t, twenty, n, "x", text)
	}
}

// Promise 20: what a number leaves by the third base has no name, or what the number is more than that has none.
func TestTurnedNamesOfWhichAPartHasNone(t *testing.T) {
	for n, text := range map[int]string{
		99: "nine and nine ten", 100: "", 101: "", 105: "", 111: "", 234: "", 990: "", 999: "",
		1000: "thousand", 1005: "thousand five", 1011: "thousand one and ten", 1099: "thousand nine and nine ten", 1100: "", 1101: "", 1111: "", 1999: "", 2099: "two thousand nine and nine ten", 2100: "", 2134: "",
		12034: "ten two thousand four and three ten", 12134: "", 99099: "nine ten nine thousand nine and nine ten", 99100: "",
	} {
		checkTurned(t, noughts(), n, "and", text)
	}
	for n, text := range map[int]string{
		99: "nine and nine ten", 100: "", 109: "", 111: "", 249: "", 250: "sack", 255: "sack five", 261: "sack one and ten", 349: "sack nine and nine ten", 350: "", 361: "", 499: "", 500: "two sack", 512: "two sack two and ten",
		24750: "nine ten nine sack", 24761: "nine ten nine sack one and ten", 24861: "", 25000: "", 25001: "", 25010: "", 25021: "", 25099: "", 62250: "", 62261: "", 62499: "", 62500: "", 62511: "", 99999: "",
	} {
		checkTurned(t, sacks(), n, "and", text)
	}
	// The third base may be above all that is named.
	for n, text := range map[int]string{99: "ui and ui na", 100: "", 111: "", 1011: "", 99999: ""} {
		checkTurned(t, tongueBy(9, 500000), n, "and", text)
	}
}

// Promises 20 and 22: the second base and the third base, the numbers one less and one more, and so much around their multiples.
func TestTurnedNamesAroundTheBases(t *testing.T) {
	for n, text := range map[int]string{
		9: "nine", 10: "ten", 11: "one and ten", 99: "nine and nine ten", 100: "hundred", 101: "hundred one", 199: "hundred nine and nine ten", 200: "two hundred", 201: "two hundred one",
		999: "nine hundred nine and nine ten", 1000: "thousand", 1001: "thousand one",
	} {
		checkTurned(t, tens(), n, "and", text)
	}
	// The third base twice the second one, and the second one the least.
	for n, text := range map[int]string{
		9: "ui", 10: "na", 11: "ua and na", 19: "ui and na", 20: "nb", 21: "nb ua", 29: "nb ui", 30: "nb na", 31: "nb ua and na", 39: "nb ui and na", 40: "ub nb", 41: "ub nb ua", 51: "ub nb ua and na",
		200: "na nb", 220: "na ua nb", 231: "na ua nb ua and na", 399: "na ui nb ui and na", 400: "", 401: "", 411: "",
	} {
		checkTurned(t, tongueBy(9, 20), n, "and", text)
	}
	for n, text := range map[int]string{
		1: "ua", 2: "na", 3: "ua and na", 4: "nb", 5: "nb ua", 6: "nb na", 7: "nb ua and na", 8: "na nb", 9: "na nb ua", 11: "na nb ua and na", 12: "na ua nb", 15: "na ua nb ua and na", 16: "nc", 19: "nc ua and na",
	} {
		checkTurned(t, tongueBy(1, 4, 16), n, "and", text)
	}
	for _, tongue := range turnableTongues() {
		turned := turnedBy(tongue, "and")
		for _, base := range tongue.Bases {
			for times := 1; times <= 21; times++ {
				for n := times*base - 2; n <= times*base+2; n++ {
					if n >= 1 && n <= 99999 {
						checkTurned(t, tongue, n, "and", turned[n])
					}
				}
			}
		}
	}
}

// Promises 20, 21 and 22: all numbers of all tongues, against turned names that are put together from the least on.
func TestAllTurnedNames(t *testing.T) {
	for i, tongue := range turnableTongues() {
		and := []string{"and", "z", "abcdefgh"}[i%3]
		if slices.Contains(impl.WordsOf(tongue), and) {
			and = "zz"
		}
		turned := turnedBy(tongue, and)
		step := 1
		for n := 1; n <= 99999; n += step {
			checkTurned(t, tongue, n, and, turned[n])
			// Small numbers all; of greater ones those that such a step, which is no multiple of a base, comes to.
			if n >= 2000 {
				step = 23
			}
		}
		for n := 99900; n <= 99999; n++ {
			checkTurned(t, tongue, n, and, turned[n])
		}
	}
}

// Promise 20: a turned name has one word more than the name, and its number a unit and the second base; any other one is the name.
func TestTurnedNamesHaveOneWordMore(t *testing.T) {
	for _, tongue := range turnableTongues() {
		turned := 0
		for n := 1; n <= 99999; n += 1 + n/500 {
			name, ok := impl.NameOf(tongue, n)
			list, okTurned := impl.TurnedName(tongue, n, "and")
			if !impl.IsTurned(tongue, n, "and") {
				if okTurned != ok || !slices.Equal(list, name) {
					t.Fatalf("%v, %d: %q, %v is not turned, and not the name %q, %v", tongue, n, list, okTurned, name, ok)
				}
				continue
			}
			turned++
			counts := impl.CountsOf(tongue.Bases, n)
			if !ok || !okTurned || len(list) != len(name)+1 || len(list) != impl.LongOf(tongue, n)+1 {
				t.Fatalf("%v, %d: turned %q, %v, name %q, %v", tongue, n, list, okTurned, name, ok)
			}
			if counts[0] == 0 || counts[1] == 0 {
				t.Fatalf("%v, %d: %q is turned, but the counts are %d", tongue, n, list, counts)
			}
		}
		if turned == 0 {
			t.Fatalf("%v: nothing is turned", tongue)
		}
	}
}

// Promise 22: of numbers below the second base, and of those without a unit or without the second base, it does not hold; of all others that are named it does.
func TestIsTurned(t *testing.T) {
	for _, tongue := range turnableTongues() {
		for n := range tongue.Bases[1] {
			if impl.IsTurned(tongue, n, "and") {
				t.Fatalf("%v: %d is turned", tongue, n)
			}
		}
		for n := 1; n <= 99999; n += 1 + n/500 {
			counts := impl.CountsOf(tongue.Bases, n)
			want := counts[0] > 0 && counts[1] > 0 && impl.LongOf(tongue, n) > 0
			if got := impl.IsTurned(tongue, n, "and"); got != want {
				t.Fatalf("%v, %d: IsTurned %v, counts %d", tongue, n, got, counts)
			}
			if list, ok := impl.TurnedName(tongue, n, "and"); ok {
				checkReadTurned(t, tongue, list, "and", n)
			}
		}
	}
}

// checkNotTurned fails if a number has a turned name.
func checkNotTurned(t *testing.T, tongue impl.Tongue, n int, and string) {
	t.Helper()
	list, ok := impl.TurnedName(tongue, n, and)
	if ok || len(list) != 0 || impl.IsTurned(tongue, n, and) {
		t.Fatalf("%v, %d, %q: %q, %v, IsTurned %v", tongue, n, and, list, ok, impl.IsTurned(tongue, n, and))
	}
}

// Promises 20 and 22: 0, numbers below 0, MaxNamed and the number behind it.
func TestTurnedNumbersOutside(t *testing.T) {
	for _, tongue := range turnableTongues() {
		for _, n := range append(unnamed(), -3, -9, -11, -13, -21, -111, -234, -99999, 100003, 100011, 100013, 100034, 100111, 123456) {
			checkNotTurned(t, tongue, n, "and")
		}
	}
	checkTurned(t, tens(), 99999, "and", "nine ten nine thousand nine hundred nine and nine ten")
	checkNotTurned(t, tens(), 100000, "and")
	checkTurned(t, tongueBy(9, 100, 1000, 10000), 99999, "and", "ui nd ui nc ui nb ui and ui na")
	checkNotTurned(t, tongueBy(9, 100, 1000, 10000), 100000, "and")
	checkNotTurned(t, tongueBy(9, 100, 1000, 10000), 100011, "and")
	// 99960, which is named, and 45 would be turned, but together they are more than MaxNamed.
	odd := tongueBy(19, 340)
	checkTurned(t, odd, 99960, "and", "un na un nb")
	checkTurned(t, odd, 99980, "and", "un na un nb na")
	checkTurned(t, odd, 99999, "and", "un na un nb us and na")
	for n := 100000; n <= 100299; n++ {
		checkNotTurned(t, odd, n, "and")
	}
	for _, text := range []string{"un na un nb ue and ub na", "un na un nb ua and ub na", "un na un nb ub na", "un na un nb ub na ue"} {
		checkReadTurned(t, odd, strings.Fields(text), "and", -1)
	}
}

// checkNoTurning fails if anything is turned, or read as turned, in a tongue with a word between.
func checkNoTurning(t *testing.T, tongue impl.Tongue, and string) {
	t.Helper()
	for _, n := range []int{-11, -1, 0, 1, 2, 3, 7, 9, 10, 11, 13, 20, 21, 34, 100, 101, 110, 111, 234, 1000, 1011, 12345, 99999, 100000} {
		checkNotTurned(t, tongue, n, and)
		name, ok := impl.NameOf(tongue, n)
		if !ok {
			continue
		}
		checkReadTurned(t, tongue, name, and, -1)
		for place := range len(name) + 1 {
			checkReadTurned(t, tongue, slices.Insert(slices.Clone(name), place, and), and, -1)
		}
		last := len(name) - 1
		for place := range last {
			checkReadTurned(t, tongue, slices.Concat(name[:place], name[last:], []string{and}, name[place:last]), and, -1)
		}
	}
	for _, word := range append(append(slices.Clone(tongue.Units), tongue.Names...), "a", "one", "", and) {
		checkReadTurned(t, tongue, []string{word}, and, -1)
		checkReadTurned(t, tongue, []string{word, and, word}, and, -1)
	}
	checkReadTurned(t, tongue, nil, and, -1)
}

// Promises 20, 21 and 22: in tongues of one base, in tongues whose bases do not each divide the next one, and in tongues that are none nothing is turned.
func TestTonguesThatAreNotTurned(t *testing.T) {
	for _, tongue := range straightTongues() {
		if !impl.TongueOk(tongue) {
			t.Fatalf("%v is no tongue", tongue)
		}
	}
	for _, tongue := range append(straightTongues(), wrongTongues()...) {
		for _, and := range []string{"and", "zzz"} {
			checkNoTurning(t, tongue, and)
		}
	}
	for units := 1; units <= 20; units++ {
		tongue := unitsAlone(numbered("u", units)...)
		for n := -1; n <= units+1; n++ {
			checkNotTurned(t, tongue, n, "and")
		}
		checkNoTurning(t, tongue, "and")
	}
}

// Promises 20, 21 and 22: of all small bases, names are turned exactly if each base divides the next one.
func TestTurnedInNestedBasesAlone(t *testing.T) {
	listsUpTo(3, []int{3, 4, 5, 6, 8, 9, 12, 16, 18, 24, 27, 36}, func(further []int) {
		for units := 1; units <= 3; units++ {
			tongue := tongueBy(units, further...)
			if !impl.TongueOk(tongue) {
				continue
			}
			for _, n := range []int{1, 2, units + 1, units + 2} {
				name, ok := impl.TurnedName(tongue, n, "and")
				if named := impl.LongOf(tongue, n) > 0; ok != (named && dividing(tongue.Bases)) {
					t.Fatalf("%v, %d: %q, %v", tongue.Bases, n, name, ok)
				}
				if !ok {
					checkNotTurned(t, tongue, n, "and")
				}
			}
		}
	})
}

// Promises 20, 21 and 22: a word between is a word, and none of the tongue.
func TestWordsBetween(t *testing.T) {
	for _, tongue := range turnableTongues() {
		words := impl.WordsOf(tongue)
		for _, word := range words {
			checkNoTurning(t, tongue, word)
		}
		for _, and := range append(strangers(), "abcdefghi", "And", "AND", "an d", "and ", " and", "a1", "a-b", "`", "{", "@", "Z", "\x00", "z\xff", "and\n", strings.Repeat("z", 9), strings.Repeat("z", 1000)) {
			if !isWord(and) {
				checkNoTurning(t, tongue, and)
			}
		}
	}
	for _, and := range []string{"a", "z", "and", "andandan", "abcdefgh", "zzzzzzzz", "on", "ones", "onet", "tens", "te", "hundre", "oneten"} {
		checkTurned(t, tens(), 11, and, "one "+and+" ten")
		checkTurned(t, tens(), 234, and, "two hundred four "+and+" three ten")
		checkTurned(t, tens(), 204, and, "two hundred four")
		checkTurned(t, tens(), 7, and, "seven")
	}
	// Another word between is none of the name.
	for _, text := range []string{"one und ten", "two hundred four und three ten", "four und", "und"} {
		checkReadTurned(t, tens(), strings.Fields(text), "and", -1)
		checkReadTurned(t, tens(), strings.Fields(strings.ReplaceAll(text, "und", "and")), "und", -1)
	}
	checkReadTurned(t, tens(), []string{"one", "und", "ten"}, "und", 11)
}

// checkReadTens fails unless a text of the tongue of tens, turned with the word and, is read as a number, or refused if that is -1.
func checkReadTens(t *testing.T, text string, want int) {
	t.Helper()
	checkReadTurned(t, tens(), strings.Fields(text), "and", want)
}

// Promise 21: names that are not turned though they have to be.
func TestReadNamesThatHaveToBeTurned(t *testing.T) {
	for _, text := range []string{
		"ten one", "ten nine", "two ten one", "nine ten nine", "hundred ten one", "two hundred three ten four", "thousand ten one", "nine ten nine thousand nine hundred nine ten nine", "ten one thousand two ten one",
	} {
		checkReadTens(t, text, -1)
	}
	for _, tongue := range turnableTongues() {
		for n := 1; n <= 99999; n += 1 + n/100 {
			name, ok := impl.NameOf(tongue, n)
			if !ok {
				continue
			}
			want := n
			if impl.IsTurned(tongue, n, "and") {
				want = -1
			}
			checkReadTurned(t, tongue, name, "and", want)
		}
	}
}

// Promise 21: turned names of numbers that are not turned.
func TestReadTurnedNamesOfNumbersThatAreNotTurned(t *testing.T) {
	for _, text := range []string{
		"four and", "four and hundred", "four and two hundred", "one and thousand", "two hundred four and", "hundred and one", "one and hundred ten", "four and two hundred three ten", "one and thousand ten", "two hundred and", "two and ten thousand",
		"two and ten hundred", "ten and two", "two ten and", "ten and", "hundred and ten", "two hundred and ten", "ten thousand and", "two and thousand hundred", "ten two and thousand", "two ten one and thousand",
		// How often a greater base is taken is not turned.
		"one and ten thousand", "one and two ten thousand", "two and ten thousand three hundred", "nine and nine ten thousand nine hundred nine and nine ten", "nine and nine ten thousand nine hundred nine ten nine",
		"nine and nine ten thousand",
	} {
		checkReadTens(t, text, -1)
		checkReadTurned(t, hundreds(), strings.Fields(text), "and", -1)
	}
	checkReadTurned(t, hundreds(), strings.Fields("two and ten hundred"), "and", -1)
	checkReadTurned(t, hundreds(), strings.Fields("ten two hundred"), "and", 1200)
	checkReadTens(t, "ten one thousand", 11000)
	checkReadTens(t, "ten one thousand one and ten", 11011)
}

// Promise 21: the word between at the beginning, at the end, twice, and in another place.
func TestTheWordBetweenInAnotherPlace(t *testing.T) {
	for _, text := range []string{
		"and", "and and", "and ten", "and one", "and one ten", "and ten one", "and one and ten", "one and ten and", "one and", "ten and", "one ten and", "ten one and", "one and and ten", "one and ten and ten",
		"one and one and ten", "and and one ten", "one ten and and", "ten and one", "and two hundred four three ten", "two and hundred four three ten", "two hundred and four three ten", "two hundred four three and ten",
		"two hundred four three ten and", "two and hundred three ten four", "two hundred and three ten four", "two hundred three and ten four", "two hundred three ten and four", "two hundred three ten four and",
		"and two hundred four and three ten", "two hundred and four and three ten", "two hundred four and three ten and", "two hundred four and and three ten", "two hundred four and three and ten",
		"thousand and one and ten", "and thousand one and ten", "one and thousand one and ten", "one and hundred one and ten", "two and ten one and thousand",
	} {
		checkReadTens(t, text, -1)
	}
	for _, tongue := range turnableTongues() {
		numbers := numbersTurned(t, tongue, "and")
		for _, n := range []int{1, 3, 11, 23, 24, 99, 234, 261, 1012, 2099, 12034, 24761, 99999} {
			turned, _ := impl.TurnedName(tongue, n, "and")
			name, _ := impl.NameOf(tongue, n)
			for _, list := range [][]string{turned, name, slices.DeleteFunc(slices.Clone(turned), func(word string) bool { return word == "and" })} {
				for place := range len(list) + 1 {
					with := slices.Insert(slices.Clone(list), place, "and")
					checkReadTurned(t, tongue, with, "and", readAs(numbers, strings.Join(with, " ")))
				}
			}
		}
	}
}

// Promise 21: a unit named twice, or two units.
func TestReadTurnedUnitsTwice(t *testing.T) {
	for _, text := range []string{
		"one one and ten", "one and ten one", "one and one ten", "one and one", "two and two", "two two and ten", "two and ten two", "two and two ten two", "one two and ten", "two one and ten", "hundred two and ten two", "hundred two two and ten",
		"two hundred four four and three ten", "two hundred four and three ten four", "two hundred four and three three ten", "two hundred four and three", "three and four and three ten", "two hundred two and two hundred three ten",
	} {
		checkReadTens(t, text, -1)
	}
	for text, n := range map[string]int{"two and two ten": 22, "two hundred two and two ten": 222, "two thousand two hundred two and two ten": 2222} {
		checkReadTens(t, text, n)
	}
}

// Promise 21: words in the wrong order, where the right order is a turned name.
func TestReadTurnedInTheWrongOrder(t *testing.T) {
	for _, text := range []string{
		"ten and one", "ten one and", "three ten and four", "four and ten three", "four three and ten", "four and three ten two hundred", "two hundred three ten and four", "hundred two four and three ten", "three hundred four ten and two ten",
		"two four and three ten hundred", "four and two hundred three ten", "two hundred ten four and three", "one and ten hundred", "one and ten thousand hundred", "hundred one and ten thousand", "one and ten ten", "one and hundred hundred",
	} {
		checkReadTens(t, text, -1)
	}
	// All orders of the words of one turned name: some are read as what they are.
	numbers := numbersTurned(t, tens(), "and")
	words := strings.Fields("two thousand hundred five and ten")
	turned, named := 0, 0
	ordersOf(words, func(list []string) {
		text := strings.Join(list, " ")
		want := readAs(numbers, text)
		checkReadTens(t, text, want)
		if want != -1 {
			named++
			if slices.Contains(list, "and") {
				turned++
			}
		}
	})
	if turned == 0 || named <= turned || named > 200 {
		t.Fatalf("%d orders are names, %d turned ones", named, turned)
	}
}

// Promise 21: texts that are neither words of the tongue nor the word between, alone, at each place of a name and instead of each word of it.
func TestReadTurnedStrangers(t *testing.T) {
	for _, tongue := range []impl.Tongue{tens(), noughts(), pair(), tongueBy(1, 4, 16, 256)} {
		for _, stranger := range append(strangers(), "und", "And", "and ", "an", "andy", "one and ten", "and ten") {
			if slices.Contains(impl.WordsOf(tongue), stranger) {
				continue
			}
			checkReadTurned(t, tongue, []string{stranger}, "and", -1)
			for _, n := range []int{1, 3, 5, 11, 20, 87, 234, 12045, 99099} {
				name, ok := impl.TurnedName(tongue, n, "and")
				if !ok {
					continue
				}
				putEverywhere(name, stranger, func(list []string) { checkReadTurned(t, tongue, list, "and", -1) })
			}
		}
	}
	checkReadTurned(t, pair(), []string{"hundred", "one", "and", "ten"}, "and", -1)
	checkReadTurned(t, pair(), []string{"hundred"}, "and", -1)
}

// Promise 21: no words, one word, 40 words and more than 40.
func TestReadTurnedManyWords(t *testing.T) {
	for _, tongue := range turnableTongues() {
		checkReadTurned(t, tongue, nil, "and", -1)
		checkReadTurned(t, tongue, []string{}, "and", -1)
		checkReadTurned(t, tongue, []string{""}, "and", -1)
		checkReadTurned(t, tongue, []string{"and"}, "and", -1)
		words := impl.WordsOf(tongue)
		for _, word := range words {
			checkReadTurned(t, tongue, []string{word}, "and", readAs(numbersOfWords(tongue), word))
		}
		for _, many := range []int{32, 39, 40, 41, 42, 80, 1000} {
			for _, row := range [][]string{words[:1], words[len(words)-1:], words, {"and"}, {words[0], "and", tongue.Names[0]}, {words[0], "and"}, {"and", words[0]}} {
				checkReadTurned(t, tongue, slices.Repeat(row, many)[:many], "and", -1)
			}
		}
	}
	name, _ := impl.TurnedName(tens(), 99999, "and")
	checkReadTurned(t, tens(), name, "and", 99999)
	for many := range 60 {
		for _, word := range []string{"one", "thousand", "and"} {
			checkReadTurned(t, tens(), append(slices.Clone(name), slices.Repeat([]string{word}, many+1)...), "and", -1)
			checkReadTurned(t, tens(), append(slices.Repeat([]string{word}, many+1), name...), "and", -1)
		}
	}
	checkReadTurned(t, tens(), slices.Repeat([]string{"and"}, 200000), "and", -1)
	checkReadTurned(t, tens(), append(slices.Repeat([]string{"one"}, 200000), "and", "ten"), "and", -1)
}

// Promise 21: all rows of a few words of small tongues and the word between, against a table of all turned names.
func TestReadTurnedAllRowsOfWords(t *testing.T) {
	for _, c := range []struct {
		tongue impl.Tongue
		most   int
	}{
		{tongueBy(1), 8}, {tongueBy(2), 7}, {tongueBy(1, 4), 7}, {tongueBy(2, 9), 6}, {tongueBy(2, 21), 6}, {tongueBy(1, 4, 16), 6}, {tongueBy(1, 4, 8), 6}, {tongueBy(1, 6, 30), 6}, {tongueBy(3), 6},
		{tongueBy(3, 16), 5}, {tongueBy(1, 4, 16, 256), 6}, {tongueBy(2, 6, 12, 300), 5},
	} {
		numbers := numbersTurned(t, c.tongue, "x")
		found := map[string]bool{}
		listsUpTo(c.most, append(impl.WordsOf(c.tongue), "x"), func(list []string) {
			text := strings.Join(list, " ")
			want := readAs(numbers, text)
			checkReadTurned(t, c.tongue, list, "x", want)
			if want != -1 {
				found[text] = true
			}
		})
		for text := range numbers {
			if len(strings.Fields(text)) <= c.most && !found[text] {
				t.Fatalf("%v: %q was not among the rows", c.tongue, text)
			}
		}
	}
}

// Promise 21: turned names with one word more, less, or another one, or two words beside each other exchanged, against a table of all turned names.
func TestReadChangedTurnedNames(t *testing.T) {
	for _, tongue := range turnableTongues() {
		numbers := numbersTurned(t, tongue, "and")
		words := append(impl.WordsOf(tongue), "and")
		check := func(list []string) {
			t.Helper()
			checkReadTurned(t, tongue, list, "and", readAs(numbers, strings.Join(list, " ")))
		}
		for _, n := range []int{1, 3, 11, 24, 34, 99, 234, 261, 1012, 2099, 24761, 99999} {
			name, _ := impl.TurnedName(tongue, n, "and")
			changesOf(name, words, check)
		}
	}
}

// Promises 21 and 22: the turned names of all numbers of one tongue are read, and no two are equal.
func TestReadAllTurnedNamesOfTens(t *testing.T) {
	seen := map[string]bool{}
	for n := 1; n <= 99999; n++ {
		name, ok := impl.TurnedName(tens(), n, "and")
		text := strings.Join(name, " ")
		if !ok || seen[text] {
			t.Fatalf("%d: %q, %v, or named before", n, text, ok)
		}
		seen[text] = true
		checkReadTurned(t, tens(), name, "and", n)
	}
}

// No function of the chapter writes into a slice of a tongue or into a list, whether it is valid or not.
func TestTurningArgumentsStay(t *testing.T) {
	for _, given := range slices.Concat(turnableTongues(), straightTongues(), wrongTongues()) {
		g := guardTongue(given)
		rows := append(rowsFor(given), []string{"and"}, []string{"one", "and", "ten"}, []string{"ua", "and", "na"}, []string{"and", "ua", "na"}, []string{"ua", "na", "and"}, []string{"a", "and", "and", "b"})
		for _, and := range []string{"and", "one", "ua", "", "And"} {
			for _, n := range []int{math.MinInt, -1, 0, 1, 2, 3, 11, 34, 99, 111, 234, 261, 1011, 12034, 99999, 100000, math.MaxInt} {
				if name, ok := impl.TurnedName(g.tongue(), n, and); ok {
					rows = append(rows, name)
				}
				g.check(t, "TurnedName")
				impl.IsTurned(g.tongue(), n, and)
				g.check(t, "IsTurned")
			}
			for _, row := range rows {
				list := guard(row, spareWord)
				impl.ReadTurned(g.tongue(), list.list, and)
				g.check(t, "ReadTurned")
				list.check(t, "ReadTurned, list")
			}
		}
	}
}

// What is written into a turned name, and behind it, is found neither in the tongue nor in other names, turned or not.
func TestTurnedNamesAreNew(t *testing.T) {
	for _, given := range turnableTongues() {
		for _, n := range []int{1, 2, 3, 5, 10, 11, 21, 34, 99, 100, 204, 234, 261, 1000, 1011, 12034, 21021, 99999} {
			g := guardTongue(given)
			first, _ := impl.TurnedName(g.tongue(), n, "and")
			want := slices.Clone(first)
			second, _ := impl.TurnedName(g.tongue(), n, "and")
			plain, _ := impl.NameOf(g.tongue(), n)
			wantPlain := slices.Clone(plain)
			scribble(first, otherWord)
			g.check(t, "TurnedName")
			if !slices.Equal(second, want) || !slices.Equal(plain, wantPlain) {
				t.Fatalf("%v, %d: names share memory: %q, %q", given, n, second, plain)
			}
			if again, _ := impl.TurnedName(g.tongue(), n, "and"); !slices.Equal(again, want) {
				t.Fatalf("%v, %d: turned again %q, not %q", given, n, again, want)
			}
			scribbleTongue(g.tongue())
			if !slices.Equal(second, want) {
				t.Fatalf("%v, %d: a turned name shares memory with the tongue: %q", given, n, second)
			}
		}
	}
}

// An answer depends on the arguments alone, whatever was asked before: with other words between, and in other tongues of equal words.
func TestTurningKeepsNoState(t *testing.T) {
	one := impl.Tongue{Units: []string{"a", "b"}, Bases: []int{1, 3}, Names: []string{"c"}}
	two := impl.Tongue{Units: []string{"c"}, Bases: []int{1, 2, 4}, Names: []string{"b", "a"}}
	for range 3 {
		checkTurned(t, one, 7, "x", "a x b c")
		checkTurned(t, one, 7, "y", "a y b c")
		checkTurned(t, two, 7, "x", "a c x b")
		checkReadTurned(t, two, []string{"a", "x", "b", "c"}, "x", -1)
		checkReadTurned(t, one, []string{"a", "x", "b", "c"}, "y", -1)
		checkNotTurned(t, one, 7, "c")
		checkNotTurned(t, impl.Tongue{}, 7, "x")
		checkReadTurned(t, impl.Tongue{}, []string{"a", "x", "b", "c"}, "x", -1)
		checkTurned(t, one, 9, "x", "")
		checkTurned(t, one, 6, "x", "b c")
		if name, _ := impl.NameOf(one, 7); !slices.Equal(name, []string{"b", "c", "a"}) {
			t.Fatal(name)
		}
	}
}
