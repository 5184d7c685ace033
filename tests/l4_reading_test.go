package tests

import (
	"math"
	"slices"
	"strings"
	"testing"

	"loop.example/numberwords/impl"
)

// numbersIn tells the number of each text of a list in which "" stands for none.
func numbersIn(t *testing.T, tongue impl.Tongue, texts []string) map[string]int {
	t.Helper()
	numbers := map[string]int{}
	for n, text := range texts {
		if text == "" {
			continue
		}
		if before, ok := numbers[text]; ok {
			t.Fatalf("%v: %q would be %d and %d", tongue, text, before, n)
		}
		numbers[text] = n
	}
	return numbers
}

// numbersBy tells the number of each text of a tongue, by names that are put together from the least on.
func numbersBy(t *testing.T, tongue impl.Tongue) map[string]int {
	t.Helper()
	return numbersIn(t, tongue, textsBy(tongue))
}

// readAs is what words or a text are read as by a table of all names: -1 if they are none.
func readAs(numbers map[string]int, text string) int {
	if n, ok := numbers[text]; ok {
		return n
	}
	return -1
}

// numbersOfWords tells what the words of a tongue are read as, each alone.
func numbersOfWords(tongue impl.Tongue) map[string]int {
	numbers := map[string]int{}
	for i, word := range tongue.Units {
		numbers[word] = i + 1
	}
	for i, word := range tongue.Names {
		if tongue.Bases[i+1] <= 99999 {
			numbers[word] = tongue.Bases[i+1]
		}
	}
	return numbers
}

// checkReadName fails unless words are read as a number, or refused if that is -1.
func checkReadName(t *testing.T, tongue impl.Tongue, list []string, want int) {
	t.Helper()
	if n, ok := impl.ReadName(tongue, list); n != want || ok != (want != -1) {
		t.Fatalf("%v: ReadName of the %d words %.300q: %d, %v, not %d", tongue, len(list), list, n, ok, want)
	}
}

// checkReadText fails unless a text is read as a number, or refused if that is -1.
func checkReadText(t *testing.T, tongue impl.Tongue, text string, want int) {
	t.Helper()
	if n, ok := impl.ReadText(tongue, text); n != want || ok != (want != -1) {
		t.Fatalf("%v: ReadText of the %d bytes %.300q: %d, %v, not %d", tongue, len(text), text, n, ok, want)
	}
}

// checkRead fails unless the words of a text, and the text, are read as a number, or refused if that is -1.
func checkRead(t *testing.T, tongue impl.Tongue, text string, want int) {
	t.Helper()
	checkReadName(t, tongue, strings.Fields(text), want)
	checkReadText(t, tongue, text, want)
}

// hundreds is a tongue whose greatest base is taken by tens as well.
func hundreds() impl.Tongue {
	return impl.Tongue{Units: tens().Units, Bases: []int{1, 10, 100}, Names: []string{"ten", "hundred"}}
}

// pair is a tongue of two bases.
func pair() impl.Tongue {
	return impl.Tongue{Units: tens().Units, Bases: []int{1, 10}, Names: []string{"ten"}}
}

func TestConstantsOfReading(t *testing.T) {
	if impl.MaxWords != 40 {
		t.Fatal(impl.MaxWords)
	}
}

// Promises 16 and 17: names told by hand; a unit behind a base may be how often a lesser or a greater base is taken, or what is left.
func TestReadTens(t *testing.T) {
	for text, n := range map[string]int{
		"one": 1, "nine": 9, "ten": 10, "ten one": 11, "two ten": 20, "nine ten nine": 99,
		"hundred": 100, "hundred one": 101, "hundred two": 102, "hundred ten": 110, "hundred two ten": 120, "hundred ten two": 112, "two hundred three ten four": 234,
		"thousand": 1000, "thousand two": 1002, "thousand two ten": 1020, "thousand two hundred": 1200, "thousand ten": 1010, "thousand ten two": 1012, "thousand hundred two ten": 1120,
		"two thousand two hundred two ten two": 2222, "ten thousand": 10000, "ten thousand ten": 10010, "ten one thousand": 11000, "ten two thousand": 12000, "two ten thousand": 20000,
		"two ten one thousand": 21000, "ten thousand two": 10002, "ten two thousand two hundred": 12200, "ten one thousand hundred ten one": 11111,
		"nine ten nine thousand nine hundred nine ten nine": 99999,
	} {
		checkRead(t, tens(), text, n)
	}
	for text, n := range map[string]int{
		"ten hundred": 1000, "ten one hundred": 1100, "three ten two hundred": 3200, "hundred three ten two": 132, "two ten hundred two ten": 2020,
		"nine ten nine hundred nine ten nine": 9999,
	} {
		checkRead(t, hundreds(), text, n)
	}
}

// Promise 16: no base is taken once with the word for one.
func TestOneAheadOfABase(t *testing.T) {
	for _, text := range []string{
		"one ten", "one hundred", "one thousand", "one ten one", "one ten two", "one hundred one", "one hundred two ten", "hundred one ten", "two hundred one ten", "two hundred one ten four",
		"thousand one hundred", "thousand one ten", "one thousand one", "one thousand one hundred one ten one", "two thousand one hundred", "one ten thousand", "one ten two thousand",
		"two ten thousand one hundred", "one one", "one one ten", "one one hundred", "one two", "one two ten",
	} {
		checkRead(t, tens(), text, -1)
	}
	// There the word for one is left of ten, and the thousand is taken eleven times.
	checkRead(t, tens(), "ten one thousand", 11000)
	for _, tongue := range namedTongues() {
		one := tongue.Units[0]
		for _, base := range tongue.Names {
			checkRead(t, tongue, one+" "+base, -1)
			checkRead(t, tongue, one+" "+base+" "+one, -1)
			checkRead(t, tongue, one+" "+one+" "+base, -1)
		}
	}
}

// Promise 16: words in the wrong order, where the right order is a name.
func TestWordsInTheWrongOrder(t *testing.T) {
	for _, text := range []string{
		"four ten two hundred", "two four hundred", "three ten two hundred", "four three ten two hundred", "two hundred four three ten", "ten three two hundred four", "hundred two three ten four",
		"nine ten hundred", "one hundred thousand two", "ten hundred", "two ten hundred", "ten two hundred", "hundred thousand", "two hundred thousand", "hundred two thousand", "hundred ten thousand",
		"thousand thousand", "one thousand two ten", "five four", "nine nine ten",
	} {
		checkRead(t, tens(), text, -1)
	}
	// All orders of the words of one name: one is read as this number, and others as what they are.
	numbers := numbersBy(t, tens())
	words := strings.Fields("two thousand hundred ten five")
	named := 0
	ordersOf(words, func(list []string) {
		if len(list) != 5 {
			return
		}
		text := strings.Join(list, " ")
		checkRead(t, tens(), text, readAs(numbers, text))
		if readAs(numbers, text) != -1 {
			named++
		}
	})
	if named == 0 || named == 120 {
		t.Fatalf("%d of 120 orders are names", named)
	}
}

// Promise 16: no base is taken as often as it tells itself, or more often, nor as often as a number that has no name.
func TestBasesTakenAsOftenAsTheyTell(t *testing.T) {
	for _, text := range []string{
		"ten ten", "ten ten ten", "ten one ten", "two ten ten", "hundred hundred", "two hundred hundred", "hundred one hundred", "thousand thousand", "ten thousand thousand",
		"nine ten ten", "hundred thousand hundred hundred",
	} {
		checkRead(t, tens(), text, -1)
		checkRead(t, hundreds(), text, -1)
		checkRead(t, pair(), text, -1)
		checkRead(t, noughts(), text, -1)
	}
	for text, n := range map[string]int{
		"nine ten": 90, "nine ten nine": 99, "ten": 10, "ten ten": -1, "ten one ten": -1, "ten ten one": -1, "ten nine ten nine": -1,
	} {
		checkRead(t, pair(), text, n)
	}
	for text, n := range map[string]int{
		"nine ten nine hundred": 9900, "hundred hundred": -1, "hundred one hundred": -1, "ten ten hundred": -1, "hundred hundred one": -1,
	} {
		checkRead(t, hundreds(), text, n)
	}
	for text, n := range map[string]int{
		"thousand nine ten nine": 1099, "nine ten nine thousand": 99000, "thousand ten ten": -1, "ten ten thousand": -1, "nine ten nine thousand nine ten nine": 99099,
	} {
		checkRead(t, noughts(), text, n)
	}
}

// Promise 16: a base behind a lesser one is how often that is taken, or nothing.
func TestBasesBehindLesserOnes(t *testing.T) {
	for text, n := range map[string]int{
		"ten hundred": -1, "ten thousand": 10000, "hundred thousand": -1, "ten hundred thousand": -1, "thousand ten hundred": -1, "two ten hundred": -1, "hundred two ten thousand": -1,
		"two thousand ten hundred": -1, "ten two hundred": -1, "three hundred thousand": -1, "thousand ten thousand": -1, "ten thousand thousand": -1,
	} {
		checkRead(t, tens(), text, n)
	}
	for text, n := range map[string]int{"ten hundred": 1000, "ten two hundred": 1200, "hundred ten hundred": -1, "two ten one hundred": 2100} {
		checkRead(t, hundreds(), text, n)
	}
}

// Promise 16: a unit twice, a base twice, and a unit that the base which follows it has taken.
func TestWordsNamedTwice(t *testing.T) {
	for _, text := range []string{
		"one one", "two two", "two three", "three two", "ten two three", "two ten three four", "hundred two two", "two hundred two two", "two two ten", "two three hundred", "ten five five",
		"ten ten", "two ten ten", "two ten three ten", "ten hundred ten", "hundred hundred", "hundred two hundred", "two hundred three hundred", "hundred ten two ten", "thousand thousand",
		"thousand two thousand", "two thousand three hundred two thousand", "two hundred thousand hundred", "hundred hundred ten", "thousand hundred hundred", "thousand ten ten",
	} {
		checkRead(t, tens(), text, -1)
	}
	for text, n := range map[string]int{"two ten two": 22, "ten two thousand ten two": 12012, "two thousand two ten": 2020, "two ten thousand two ten two": 20022, "hundred three ten three": 133} {
		checkRead(t, tens(), text, n)
	}
}

// Promise 16: texts that are no words of the tongue, alone and at each place of a name, in front of each word and instead of it.
func TestReadStrangers(t *testing.T) {
	for _, tongue := range []impl.Tongue{tens(), noughts(), unitsAlone("a"), tongueBy(1, 3, 4, 5)} {
		for _, stranger := range strangers() {
			if slices.Contains(impl.WordsOf(tongue), stranger) {
				continue
			}
			checkReadName(t, tongue, []string{stranger}, -1)
			checkReadText(t, tongue, stranger, -1)
			for _, n := range []int{1, 5, 20, 234, 12345, 99099} {
				name, ok := impl.NameOf(tongue, n)
				if !ok {
					continue
				}
				putEverywhere(name, stranger, func(list []string) { checkReadName(t, tongue, list, -1) })
			}
		}
	}
	// Several words in one are none, nor are words of other tongues.
	for _, list := range [][]string{{"two ten"}, {"two", "ten three"}, {"two hundred three ten four"}, {"two", " ten"}, {"two ", "ten"}, {"", "ten"}, {"ten", ""}, {"two", "", "ten"}, {"Ten"}, {"ua"}, {"na"}} {
		checkReadName(t, tens(), list, -1)
	}
	checkRead(t, pair(), "two hundred", -1)
	checkRead(t, pair(), "hundred", -1)
	checkRead(t, noughts(), "hundred", -1)
}

// Promise 16: no words, one word, 40 words and more.
func TestReadManyWords(t *testing.T) {
	for _, tongue := range namedTongues() {
		checkReadName(t, tongue, nil, -1)
		checkReadName(t, tongue, []string{}, -1)
		words := impl.WordsOf(tongue)
		for _, word := range words {
			checkReadName(t, tongue, []string{word}, readAs(numbersOfWords(tongue), word))
		}
		slices.Reverse(words)
		for _, many := range []int{32, 39, 40, 41, 42, 80, 1000} {
			for _, row := range [][]string{words[:1], words[len(words)-1:], words, tongue.Units, append(slices.Clone(tongue.Names), tongue.Units[0])} {
				checkReadName(t, tongue, slices.Repeat(row, many)[:many], -1)
			}
		}
	}
	name, _ := impl.NameOf(tens(), 99999)
	for many := range 60 {
		checkReadName(t, tens(), append(slices.Clone(name), slices.Repeat([]string{"one"}, many+1)...), -1)
		checkReadName(t, tens(), append(slices.Repeat([]string{"thousand"}, many+1), name...), -1)
	}
	checkReadName(t, tens(), slices.Repeat([]string{"one"}, 200000), -1)
}

// Promise 16: names of many words.
func TestReadLongNames(t *testing.T) {
	tongue := tongueBy(4, 12, 50, 2000)
	numbers := numbersBy(t, tongue)
	most := 0
	for text, n := range numbers {
		most = max(most, len(strings.Fields(text)))
		if n%7 == 0 {
			checkRead(t, tongue, text, n)
		}
	}
	if most < 15 {
		t.Fatalf("the longest name has %d words", most)
	}
}

// Promise 16: numbers above MaxNamed have no name, whatever the words tell, and however great the numbers are.
func TestReadNumbersAboveMaxNamed(t *testing.T) {
	for _, text := range []string{
		"hundred thousand", "hundred one thousand", "two hundred thousand", "nine hundred nine ten nine thousand nine hundred nine ten nine", "thousand hundred thousand", "hundred hundred hundred hundred",
	} {
		checkRead(t, tens(), text, -1)
	}
	checkRead(t, tongueBy(9, 99999), "nb", 99999)
	checkRead(t, tongueBy(9, 99999), "nb ua", -1)
	checkRead(t, tongueBy(9, 99999), "ub nb", -1)
	checkRead(t, tongueBy(9, 100000), "nb", -1)
	checkRead(t, tongueBy(1, 100000), "nb ua", -1)
	checkRead(t, tongueBy(9, 100, 1000, 10000), "ui nd ui nc ui nb ui na ui", 99999)
	checkRead(t, tongueBy(9, 100, 1000, 10000), "na nd", -1)
	great := tongueBy(4, 999997, 999998, 999999)
	for text, n := range map[string]int{"ud na ud": 24, "nb": -1, "nc": -1, "nd": -1, "ub nd": -1, "na nb nc nd": -1, "ud na nb nc nd": -1, "nd nc nb na ua": -1, "nb nc nd nb nc nd nb nc nd": -1} {
		checkRead(t, great, text, n)
	}
	for many := 1; many <= 10; many++ {
		checkReadName(t, great, slices.Repeat([]string{"na", "nb", "nc", "nd"}, many), -1)
	}
}

// Promise 16: in tongues of one base there are units alone.
func TestReadUnitsAlone(t *testing.T) {
	for units := 1; units <= 20; units++ {
		tongue := unitsAlone(numbered("u", units)...)
		for i, word := range tongue.Units {
			checkRead(t, tongue, word, i+1)
			for _, behind := range tongue.Units {
				checkRead(t, tongue, word+" "+behind, -1)
			}
			checkRead(t, tongue, word+" na", -1)
		}
		checkRead(t, tongue, "na", -1)
		checkRead(t, tongue, "", -1)
	}
}

// Promises 16 and 17: in tongues that are none nothing is read, not even the words that are there.
func TestReadWrongTongues(t *testing.T) {
	for _, tongue := range wrongTongues() {
		words := append(slices.Clone(tongue.Units), tongue.Names...)
		words = append(words, "a", "b", "one", "ten", "")
		for _, word := range words {
			checkReadName(t, tongue, []string{word}, -1)
			checkReadText(t, tongue, word, -1)
			checkReadName(t, tongue, []string{word, words[0]}, -1)
			checkReadText(t, tongue, word+" "+words[0], -1)
		}
		checkReadName(t, tongue, words, -1)
		checkReadName(t, tongue, nil, -1)
	}
}

// Promises 16 and 17: the names of all tongues.
func TestReadAllNames(t *testing.T) {
	for _, tongue := range namedTongues() {
		step := 1
		for n := 1; n <= 99999; n += step {
			if n >= 500 {
				step = 37
			}
			name, ok := impl.NameOf(tongue, n)
			if ok {
				checkReadName(t, tongue, name, n)
				checkReadText(t, tongue, impl.TextOf(tongue, n), n)
			}
		}
	}
	for n := 1; n <= 99999; n++ {
		name, _ := impl.NameOf(tens(), n)
		checkReadName(t, tens(), name, n)
	}
}

// Promise 16: all rows of a few words of small tongues, against a table of all names.
func TestReadAllRowsOfWords(t *testing.T) {
	for _, c := range []struct {
		tongue impl.Tongue
		most   int
	}{
		{tongueBy(1), 9}, {tongueBy(2), 7}, {tongueBy(1, 3), 7}, {tongueBy(2, 9), 6}, {tongueBy(2, 20), 6}, {tongueBy(1, 3, 4), 6}, {tongueBy(1, 4, 16), 6}, {tongueBy(1, 5, 30), 6},
		{tongueBy(3, 16), 5}, {tongueBy(1, 3, 4, 5), 5}, {tongueBy(2, 5, 7, 300), 5}, {tongueBy(1, 4, 16, 256), 5}, {unitsAlone("a", "b", "c"), 5},
	} {
		numbers := numbersBy(t, c.tongue)
		found := map[string]bool{}
		listsUpTo(c.most, impl.WordsOf(c.tongue), func(list []string) {
			text := strings.Join(list, " ")
			want := readAs(numbers, text)
			checkRead(t, c.tongue, text, want)
			if want != -1 {
				found[text] = true
			}
		})
		for text := range numbers {
			if len(strings.Fields(text)) <= c.most && !found[text] {
				t.Fatalf("%v: %q was not among the rows", c.tongue, text)
			}
		}
	}
}

// Promise 16: names with one word more, less, or another one, or two words beside each other exchanged, against a table of all names.
func TestReadChangedNames(t *testing.T) {
	for _, tongue := range namedTongues() {
		numbers := numbersBy(t, tongue)
		words := impl.WordsOf(tongue)
		check := func(list []string) {
			checkReadName(t, tongue, list, readAs(numbers, strings.Join(list, " ")))
		}
		for _, n := range []int{1, 3, 11, 24, 99, 234, 1012, 2099, 24750, 99999} {
			name, _ := impl.NameOf(tongue, n)
			changesOf(name, words, check)
		}
	}
}

// Promise 17: with a space, or anything else, behind, ahead of or within a text it is refused.
func TestReadTextsAreCanonical(t *testing.T) {
	for _, tongue := range namedTongues() {
		for _, n := range []int{1, 2, 3, 5, 11, 15, 99, 234, 1012, 12000, 24750, 99999} {
			text := impl.TextOf(tongue, n)
			if text == "" {
				continue
			}
			checkReadText(t, tongue, text, n)
			for _, extra := range []string{" ", "  ", "\t", "\n", "\r\n", "\x00", "\xa0", "\u00a0", "\u2003", ".", ",", "-", "_", "X"} {
				checkReadText(t, tongue, text+extra, -1)
				checkReadText(t, tongue, extra+text, -1)
				if strings.Contains(text, " ") {
					checkReadText(t, tongue, strings.Replace(text, " ", " "+extra, 1), -1)
					checkReadText(t, tongue, strings.Replace(text, " ", extra+" ", 1), -1)
				}
			}
			for place := range len(text) {
				if text[place] != ' ' {
					continue
				}
				for _, instead := range []string{"", "\t", "\n", "\x00", "\xa0", "\u00a0", "  ", "-", "_", ",", "X", "qqq"} {
					checkReadText(t, tongue, text[:place]+instead+text[place+1:], -1)
				}
			}
		}
	}
}

// Promise 17: each letter in the place of each space.
func TestReadTextsWithALetterForASpace(t *testing.T) {
	for _, n := range []int{11, 20, 234, 12345, 99999} {
		text := impl.TextOf(tens(), n)
		for place := range len(text) {
			if text[place] != ' ' {
				continue
			}
			for b := range 256 {
				if b != ' ' {
					checkReadText(t, tens(), text[:place]+string([]byte{byte(b)})+text[place+1:], -1)
				}
			}
		}
	}
}

// Promise 17: the empty text, spaces alone, texts of one word, and of very many.
func TestReadTextsOfFewAndManyWords(t *testing.T) {
	for _, tongue := range namedTongues() {
		for many := range 50 {
			checkReadText(t, tongue, strings.Repeat(" ", many), -1)
		}
		words, numbers := impl.WordsOf(tongue), numbersOfWords(tongue)
		for _, word := range words {
			checkReadText(t, tongue, word, readAs(numbers, word))
			checkReadText(t, tongue, strings.ToUpper(word), -1)
			checkReadText(t, tongue, word+word, readAs(numbers, word+word))
		}
		for _, many := range []int{32, 39, 40, 41, 42, 100, 20000} {
			for _, word := range []string{words[0], words[len(words)-1]} {
				row := strings.Repeat(word+" ", many)
				checkReadText(t, tongue, row, -1)
				checkReadText(t, tongue, row[:len(row)-1], -1)
			}
		}
	}
	checkReadText(t, tens(), strings.Repeat(" ", 100000)+"one", -1)
	checkReadText(t, tens(), "one"+strings.Repeat(" ", 100000), -1)
	checkReadText(t, tens(), strings.Repeat("one", 100000), -1)
}

// Promise 17: all short texts of a few letters and spaces, where words begin and end with each other, against a table of all texts.
func TestReadAllShortTexts(t *testing.T) {
	for _, c := range []struct {
		tongue  impl.Tongue
		letters []string
		most    int
	}{
		{impl.Tongue{Units: []string{"a", "b"}, Bases: []int{1, 3}, Names: []string{"c"}}, []string{"a", "b", "c", " "}, 7},
		{impl.Tongue{Units: []string{"a", "aa"}, Bases: []int{1, 3, 9}, Names: []string{"aaa", "aaaa"}}, []string{"a", " "}, 13},
		{impl.Tongue{Units: []string{"a", "ab"}, Bases: []int{1, 3, 5}, Names: []string{"b", "ba"}}, []string{"a", "b", " "}, 8},
		{impl.Tongue{Units: []string{"a"}, Bases: []int{1, 2}, Names: []string{"b"}}, []string{"a", "b", " ", "A", "\x00", "\xff", "\t"}, 5},
	} {
		numbers := numbersBy(t, c.tongue)
		named := 0
		listsUpTo(c.most, c.letters, func(list []string) {
			text := strings.Join(list, "")
			want := readAs(numbers, text)
			checkReadText(t, c.tongue, text, want)
			if want != -1 {
				named++
			}
		})
		if named < 3 {
			t.Fatalf("%v: only %d texts are names", c.tongue, named)
		}
	}
}

// Promise 17: arbitrary bytes, alone, at each place of a text and instead of each of its bytes.
func TestReadArbitraryBytes(t *testing.T) {
	one := impl.Tongue{Units: []string{"a", "b", "z"}, Bases: []int{1, 4}, Names: []string{"f"}}
	numbers := numbersBy(t, one)
	for b := range 256 {
		letter := string([]byte{byte(b)})
		for _, text := range []string{letter, letter + letter, "b" + letter, letter + "b", "b f" + letter, "b" + letter + "f", letter + " f", "b " + letter, "b f " + letter, letter + " b f"} {
			checkReadText(t, one, text, readAs(numbers, text))
		}
	}
	numbers = numbersBy(t, tens())
	for _, n := range []int{1, 20, 234} {
		text := impl.TextOf(tens(), n)
		for place := range len(text) + 1 {
			for b := range 256 {
				letter := string([]byte{byte(b)})
				checkReadText(t, tens(), text[:place]+letter+text[place:], -1)
				if place < len(text) {
					instead := text[:place] + letter + text[place+1:]
					checkReadText(t, tens(), instead, readAs(numbers, instead))
				}
			}
		}
	}
	for _, text := range []string{"\x00", "\xff\xfe", "\xc3\x28", "one\x00", "one\xff", "\xefone", "one \xf0\x9f\x98\x80", "two\x00ten", "\ufeffone", "one\u0301", "1", "234", "-1", "two hundred\n"} {
		checkReadText(t, tens(), text, -1)
	}
}

// checkNames fails unless there are the names of all numbers from one to another one.
func checkNames(t *testing.T, tongue impl.Tongue, from int, to int) {
	t.Helper()
	list := impl.NamesOf(tongue, from, to)
	if len(list) != to-from+1 {
		t.Fatalf("%v, %d to %d: %d names", tongue, from, to, len(list))
	}
	seen := map[string]bool{}
	for i, text := range list {
		if text != impl.TextOf(tongue, from+i) || text == "" || seen[text] {
			t.Fatalf("%v, %d to %d: %q is %d", tongue, from, to, text, from+i)
		}
		seen[text] = true
		checkReadText(t, tongue, text, from+i)
	}
}

// checkNoNames fails if there are names from one number to another one.
func checkNoNames(t *testing.T, tongue impl.Tongue, from int, to int) {
	t.Helper()
	if list := impl.NamesOf(tongue, from, to); len(list) != 0 {
		t.Fatalf("%v, %d to %d: %d names, %.300q", tongue, from, to, len(list), list)
	}
}

// Promise 18: names in a row, told by hand.
func TestNamesOfTheFirstNumbers(t *testing.T) {
	for _, c := range []struct {
		from, to int
		want     string
	}{
		{1, 1, "one"}, {1, 3, "one,two,three"}, {9, 11, "nine,ten,ten one"}, {19, 21, "ten nine,two ten,two ten one"}, {99, 101, "nine ten nine,hundred,hundred one"},
		{234, 234, "two hundred three ten four"}, {1000, 1001, "thousand,thousand one"}, {99999, 99999, "nine ten nine thousand nine hundred nine ten nine"},
	} {
		if list := impl.NamesOf(tens(), c.from, c.to); strings.Join(list, ",") != c.want {
			t.Errorf("%d to %d: %q, not %q", c.from, c.to, list, c.want)
		}
	}
}

// Promise 18: one number alone, 200 numbers and 201, and both ends.
func TestNamesOf(t *testing.T) {
	for _, from := range []int{1, 2, 9, 10, 99, 100, 950, 9999, 12345, 99800} {
		for _, many := range []int{1, 2, 3, 100, 199, 200} {
			checkNames(t, tens(), from, from+many-1)
		}
		for _, many := range []int{201, 202, 250, 400, 1000} {
			checkNoNames(t, tens(), from, from+many-1)
		}
		for _, to := range []int{from - 1, from - 2, from - 200, 1 - from, 0, -1, -from, math.MinInt} {
			checkNoNames(t, tens(), from, to)
		}
	}
	checkNames(t, tens(), 99999, 99999)
	checkNames(t, tens(), 99998, 99999)
	checkNames(t, tens(), 99800, 99999)
	for _, from := range []int{99800, 99801, 99900, 99998, 99999, 100000} {
		for _, to := range []int{100000, 100001} {
			checkNoNames(t, tens(), from, to)
		}
	}
	checkNoNames(t, tens(), 99799, 99999)
	checkNoNames(t, tens(), 1, 99999)
	checkNoNames(t, tens(), 5, 4)
	for _, from := range []int{0, -1, -2, -100, -199} {
		for _, to := range []int{from, from + 1, 0, 1, 5, 100} {
			checkNoNames(t, tens(), from, to)
		}
	}
}

// Promise 18: ends far outside, also where their difference does not fit.
func TestNamesOfEndsFarOutside(t *testing.T) {
	ends := append(unnamed(), 1, 200, 99999, math.MaxInt-1, math.MinInt+1, math.MaxInt-100, math.MinInt+100)
	for _, from := range ends {
		for _, to := range ends {
			if from >= 1 && to <= 99999 && from <= to && to-from < 200 {
				checkNames(t, tens(), from, to)
			} else {
				checkNoNames(t, tens(), from, to)
			}
		}
	}
}

// Promise 18: just one number without a name, the first, a middle one or the last.
func TestNamesOfWithOneThatHasNone(t *testing.T) {
	for _, c := range []struct {
		tongue  impl.Tongue
		without int
	}{
		{tongueBy(9, 101), 100}, {tongueBy(1, 5), 4}, {tongueBy(2, 10), 9}, {tongueBy(9, 101, 9999), 201},
	} {
		if impl.TextOf(c.tongue, c.without) != "" || impl.TextOf(c.tongue, c.without-1) == "" || impl.TextOf(c.tongue, c.without+1) == "" {
			t.Fatalf("%v: not just %d has no name", c.tongue, c.without)
		}
		n := c.without
		checkNoNames(t, c.tongue, n, n)
		checkNoNames(t, c.tongue, n, n+1)
		checkNoNames(t, c.tongue, n, n+3)
		checkNoNames(t, c.tongue, n-1, n+1)
		checkNoNames(t, c.tongue, n-2, n+2)
		checkNoNames(t, c.tongue, n-1, n)
		checkNoNames(t, c.tongue, max(n-50, 1), n)
		checkNames(t, c.tongue, max(n-50, 1), n-1)
		checkNames(t, c.tongue, n-1, n-1)
		checkNames(t, c.tongue, n+1, n+3)
	}
	checkNames(t, tongueBy(9, 101), 101, 200)
	checkNoNames(t, tongueBy(9, 101), 101, 201)
	checkNoNames(t, tongueBy(9, 101), 1, 200)
}

// Promise 18: all rows of small tongues, against the first number without a name between both ends.
func TestNamesOfAllRows(t *testing.T) {
	for _, tongue := range []impl.Tongue{tongueBy(1), tongueBy(1, 5), tongueBy(2, 10, 30), tongueBy(1, 3, 4, 5), unitsAlone("a", "b", "c"), unitsAlone(numbered("u", 20)...)} {
		for from := -2; from <= 34; from++ {
			for to := -2; to <= 34; to++ {
				all := from >= 1 && from <= to
				for n := from; n <= to; n++ {
					all = all && impl.TextOf(tongue, n) != ""
				}
				if all {
					checkNames(t, tongue, from, to)
				} else {
					checkNoNames(t, tongue, from, to)
				}
			}
		}
	}
}

// Promise 18: in tongues that are none there are no names.
func TestNamesOfWrongTongues(t *testing.T) {
	for _, tongue := range wrongTongues() {
		for _, to := range []int{-1, 0, 1, 2, 3, 200, 201} {
			checkNoNames(t, tongue, 1, to)
			checkNoNames(t, tongue, to, to)
		}
	}
	for units := 1; units <= 20; units++ {
		tongue := unitsAlone(numbered("u", units)...)
		checkNames(t, tongue, 1, units)
		checkNoNames(t, tongue, 1, units+1)
		checkNoNames(t, tongue, units+1, units+1)
	}
}

// checkNext fails unless the next name behind that with a text is that with another one, or there is none if that is "".
func checkNext(t *testing.T, tongue impl.Tongue, text string, want string) {
	t.Helper()
	list, ok := impl.NextName(tongue, strings.Fields(text))
	if ok != (want != "") || len(list) != len(strings.Fields(want)) || strings.Join(list, " ") != want {
		t.Fatalf("%v: next of %q: %q, %v, not %q", tongue, text, list, ok, want)
	}
}

// Promise 19: names told by hand, behind some of which one base more is taken.
func TestNextNameOfTens(t *testing.T) {
	for text, want := range map[string]string{
		"one": "two", "eight": "nine", "nine": "ten", "ten": "ten one", "ten nine": "two ten", "two ten nine": "three ten", "eight ten nine": "nine ten", "nine ten nine": "hundred",
		"hundred": "hundred one", "hundred nine": "hundred ten", "hundred ten nine": "hundred two ten", "hundred nine ten nine": "two hundred", "two hundred three ten four": "two hundred three ten five",
		"nine hundred nine ten nine": "thousand", "thousand": "thousand one", "thousand nine hundred nine ten nine": "two thousand", "nine thousand nine hundred nine ten nine": "ten thousand",
		"ten thousand nine hundred nine ten nine": "ten one thousand", "ten nine thousand nine hundred nine ten nine": "two ten thousand", "nine ten nine thousand nine hundred nine ten eight": "nine ten nine thousand nine hundred nine ten nine",
		"nine ten nine thousand nine hundred nine ten nine": "",
	} {
		checkNext(t, tens(), text, want)
	}
}

// Promise 19: a number whose next one has no name, though greater ones have, and the greatest one of all.
func TestNextNameOfTheGreatest(t *testing.T) {
	for text, want := range map[string]string{
		"nine ten eight": "nine ten nine", "nine ten nine": "", "thousand nine ten nine": "", "thousand nine ten eight": "thousand nine ten nine", "thousand": "thousand one",
		"nine ten nine thousand nine ten nine": "", "nine ten nine thousand nine ten eight": "nine ten nine thousand nine ten nine",
	} {
		checkNext(t, noughts(), text, want)
	}
	checkNext(t, pair(), "nine ten nine", "")
	checkNext(t, hundreds(), "nine ten nine hundred nine ten nine", "")
	checkNext(t, hundreds(), "nine ten nine", "hundred")
	checkNext(t, tongueBy(9, 99999), "nb", "")
	checkNext(t, tongueBy(9, 101), "ui na ui", "")
	checkNext(t, tongueBy(9, 101), "nb", "nb ua")
	checkNext(t, tongueBy(1), "na ua", "")
	for units := 1; units <= 20; units++ {
		tongue := unitsAlone(numbered("u", units)...)
		checkNext(t, tongue, tongue.Units[units-1], "")
		for i := range units - 1 {
			checkNext(t, tongue, tongue.Units[i], tongue.Units[i+1])
		}
	}
}

// Promise 19: of each tongue names are counted on; where the next number has no name there is none.
func TestNamesAreCountedOn(t *testing.T) {
	for _, tongue := range namedTongues() {
		step := 1
		for n := 1; n <= 99999; n += step {
			if n >= 300 {
				step = 53
			}
			text := impl.TextOf(tongue, n)
			if text == "" {
				continue
			}
			checkNext(t, tongue, text, impl.TextOf(tongue, n+1))
			if list, ok := impl.NextName(tongue, strings.Fields(text)); ok {
				checkReadName(t, tongue, list, n+1)
			}
		}
		most := impl.GreatestNamed(tongue)
		checkNext(t, tongue, impl.TextOf(tongue, most), "")
	}
	// From one on, name by name.
	name := []string{"one"}
	for n := 1; n <= 2100; n++ {
		checkReadName(t, tens(), name, n)
		name, _ = impl.NextName(tens(), name)
	}
}

// Promise 19: behind words that are no name, and in tongues that are none, there is no next name.
func TestNextNameOfNone(t *testing.T) {
	for _, text := range []string{
		"", "x", "one ten", "one hundred", "ten ten", "ten hundred", "two three", "hundred thousand", "four ten two hundred", "One", "tens", "hundred hundred", "nine hundred nine ten nine thousand",
		strings.Repeat("one ", 40), strings.Repeat("one ", 41), strings.Repeat("thousand ", 100),
	} {
		checkNext(t, tens(), text, "")
	}
	for _, list := range [][]string{nil, {}, {""}, {"two ten"}, {"one", ""}, {"", "one"}, {"one "}} {
		if next, ok := impl.NextName(tens(), list); ok || len(next) != 0 {
			t.Errorf("%q: %q, %v", list, next, ok)
		}
	}
	for _, tongue := range wrongTongues() {
		for _, word := range append(append(slices.Clone(tongue.Units), tongue.Names...), "a", "b", "one") {
			if next, ok := impl.NextName(tongue, []string{word}); ok || len(next) != 0 {
				t.Errorf("%v, %q: %q, %v", tongue, word, next, ok)
			}
		}
	}
}

// rowsFor are rows of words that are names in some tongues, or in none.
func rowsFor(tongue impl.Tongue) [][]string {
	rows := [][]string{nil, {}, {""}, {"one"}, {"a"}, {"ua"}, {"one", "ten"}, {"ten", "ten"}, {"x", "y", "z"}, slices.Repeat([]string{"a"}, 41)}
	for _, n := range []int{1, 2, 3, 5, 11, 15, 99, 234, 999, 12000, 99999} {
		if name, ok := impl.NameOf(tongue, n); ok {
			rows = append(rows, name)
		}
	}
	return rows
}

// No function of the chapter writes into a slice of a tongue or into a list, whether it is valid or not.
func TestReadingArgumentsStay(t *testing.T) {
	for _, given := range append(namedTongues(), wrongTongues()...) {
		g := guardTongue(given)
		for _, row := range rowsFor(given) {
			list := guard(row, spareWord)
			impl.ReadName(g.tongue(), list.list)
			g.check(t, "ReadName")
			list.check(t, "ReadName, list")
			impl.NextName(g.tongue(), list.list)
			g.check(t, "NextName")
			list.check(t, "NextName, list")
			impl.ReadText(g.tongue(), strings.Join(row, " "))
			g.check(t, "ReadText")
		}
		for _, from := range []int{-1, 0, 1, 2, 99, 100, 99900, 99999, 100000} {
			impl.NamesOf(g.tongue(), from, from+20)
			g.check(t, "NamesOf")
		}
	}
}

// What is written into texts, and behind them, is found neither in the tongue nor in other texts.
func TestNamesInARowAreNew(t *testing.T) {
	for _, given := range namedTongues() {
		for _, to := range []int{1, 2, 3, 8, 20, 99, 200} {
			g := guardTongue(given)
			first := impl.NamesOf(g.tongue(), 1, to)
			want := slices.Clone(first)
			second := impl.NamesOf(g.tongue(), 1, to)
			scribble(first, otherWord)
			g.check(t, "NamesOf")
			if !slices.Equal(second, want) || !slices.Equal(impl.NamesOf(g.tongue(), 1, to), want) {
				t.Fatalf("%v, to %d: texts share memory: %q", given, to, second)
			}
			scribbleTongue(g.tongue())
			if !slices.Equal(second, want) {
				t.Fatalf("%v, to %d: texts share memory with the tongue: %q", given, to, second)
			}
		}
	}
}

// What is written into a next name, and behind it, is found neither in the tongue, nor in the list, nor in other names.
func TestNextNamesAreNew(t *testing.T) {
	for _, given := range namedTongues() {
		for _, row := range rowsFor(given) {
			g, list := guardTongue(given), guard(row, spareWord)
			first, ok := impl.NextName(g.tongue(), list.list)
			if !ok {
				continue
			}
			want := slices.Clone(first)
			second, _ := impl.NextName(g.tongue(), list.list)
			scribble(first, otherWord)
			g.check(t, "NextName")
			list.check(t, "NextName, list")
			if again, _ := impl.NextName(g.tongue(), list.list); !slices.Equal(second, want) || !slices.Equal(again, want) {
				t.Fatalf("%v, %q: next names share memory: %q, %q", given, row, second, again)
			}
			scribbleTongue(g.tongue())
			scribble(list.list, otherWord)
			if !slices.Equal(second, want) {
				t.Fatalf("%v, %q: a next name shares memory with an argument: %q", given, row, second)
			}
		}
	}
}

// An answer depends on the arguments alone, whatever was read before: of equal words, other tongues read other numbers.
func TestReadingKeepsNoState(t *testing.T) {
	one := impl.Tongue{Units: []string{"a", "b"}, Bases: []int{1, 3}, Names: []string{"c"}}
	two := impl.Tongue{Units: []string{"c"}, Bases: []int{1, 2, 3}, Names: []string{"b", "a"}}
	for range 3 {
		checkRead(t, one, "b c a", 7)
		checkRead(t, two, "b a c", 7)
		checkRead(t, two, "b c a", -1)
		checkRead(t, one, "b a c", -1)
		checkRead(t, impl.Tongue{}, "b c a", -1)
		checkRead(t, one, "a", 1)
		checkRead(t, two, "a", 3)
		checkNext(t, one, "a", "b")
		checkNext(t, two, "a", "a c")
		checkNext(t, impl.Tongue{}, "a", "")
		if list := impl.NamesOf(one, 1, 4); strings.Join(list, ",") != "a,b,c,c a" {
			t.Fatal(list)
		}
		if list := impl.NamesOf(two, 1, 4); strings.Join(list, ",") != "c,b,a,a c" {
			t.Fatal(list)
		}
	}
}
