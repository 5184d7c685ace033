package tests

import (
	"slices"
	"strings"
	"testing"

	"loop.example/numberwords/impl"
)

// goodCodes are codes of the fewest and the most words and letters: apart, readable all the same, and made in two ways.
func goodCodes() [][]string {
	return [][]string{
		{"a"}, {"z"}, {"abcd"}, {"zzzz"}, {"b", "a"}, {"aa", "ab", "ba", "bb"}, {"one", "two", "ten", "six", "nine", "five"}, {"a", "b", "c", "d", "e", "f"}, {"a", "aa", "aaa", "aaaa"}, {"aaaa", "aaa", "aa", "a", "b", "bb"},
		{"a", "ba"}, {"ab", "b"}, {"a", "ab"}, {"ab", "a"}, {"a", "ab", "bb"}, {"bb", "ab", "a"}, {"a", "aab"}, {"aa", "aaab", "b"}, {"a", "ab", "b"}, {"ab", "abb", "baa", "b"}, {"aa", "aaa"}, {"aaa", "aaaa"}, {"a", "aaab", "baaa"},
		{"aa", "aaab", "abba", "baa"}, {"aa", "aaba", "abbb", "baab", "bbb"}, {"aacb", "bbba", "baac", "cbbb", "acb", "aa"}, {"car", "cart", "tip", "ip"}, {"one", "eno", "non", "neo"},
	}
}

// wrongCodes are no codes, each for a reason of its own.
func wrongCodes() [][]string {
	list := [][]string{
		nil, {}, {""}, {"abcde"}, {"abcdefgh"}, {"abcdefghi"}, {strings.Repeat("a", 200000)}, {"a", "abcde"}, {"abcde", "a"}, {"a", "b", "c", "d", "e", "fffff"},
		{"a", "b", "c", "d", "e", "f", "g"}, {"one", "two", "ten", "six", "nine", "five", "four"}, {"a", "b", "c", "d", "e", "f", "a"}, {"a", "b", "c", "d", "e", "f", ""}, numbered("w", 8), numbered("w", 26), slices.Repeat([]string{"a"}, 200000),
		{"a", "a"}, {"abcd", "abcd"}, {"a", "a", "b"}, {"b", "a", "a"}, {"a", "b", "a"}, {"a", "b", "c", "a"}, {"a", "b", "c", "d", "e", "a"}, {"b", "a", "c", "d", "a", "e"}, {"ab", "b", "ab"}, {"a", "a", "a", "a", "a", "a"}, {"a", "aa", "aaa", "aaaa", "aaa"},
		{"a", ""}, {"", "a"}, {"a", "", "b"}, {"", ""}, {"A"}, {"a", "B"}, {"a", "bC"}, {"a b"}, {" "}, {"a "}, {" a"}, {"1"}, {"a", "a1"}, {"a-b"}, {"\x00"}, {"a\x00"}, {"\xff"}, {"a", "ab\n"}, {"\xc3\xa4"}, {"a", "\xc3\xa4\xc3\xa4"}, {"`"}, {"{"}, {"a", "z{"},
	}
	for word := range strings.SplitSeq("Z @ [ / : _ \t \x7f \x80", " ") {
		list = append(list, []string{word}, []string{"ab", "a" + word}, []string{word + "b", "ab"})
	}
	return list
}

// isCode tells piece by piece what a code is.
func isCode(list []string) bool {
	ok := len(list) >= 1 && len(list) <= 6
	for i, word := range list {
		ok = ok && isWord(word) && len(word) <= 4 && slices.Index(list, word) == i
	}
	return ok
}

// wordsOver are all words of some letters, up to so many of them, in the order of bytes.
func wordsOver(letters string, most int) []string {
	var words []string
	listsUpTo(most, strings.Split(letters, ""), func(list []string) {
		if len(list) > 0 {
			words = append(words, strings.Join(list, ""))
		}
	})
	return words
}

// codesOf calls do with the codes of so many of some words, of each so many ones with one; every second one is turned, so that words stand before and behind those that begin them.
func codesOf(words []string, many int, each int, do func([]string)) {
	count := 0
	var grow func(from int, list []string)
	grow = func(from int, list []string) {
		if len(list) < many {
			for i := from; i < len(words); i++ {
				grow(i+1, append(list, words[i]))
			}
			return
		}
		if count%each == 0 {
			code := slices.Clone(list)
			if count/each%2 == 1 {
				slices.Reverse(code)
			}
			do(code)
		}
		count++
	}
	grow(0, make([]string, 0, many))
}

// someCodes calls do with thousands of codes of 1 to 6 words.
func someCodes(do func([]string)) {
	for many, each := range []int{1: 1, 2: 1, 3: 1, 4: 5, 5: 41, 6: 211} {
		if many > 0 {
			codesOf(wordsOver("ab", 4), many, each, do)
		}
	}
	for many, each := range []int{1: 1, 2: 1, 3: 5, 4: 29} {
		if many > 0 {
			codesOf(wordsOver("abc", 3), many, each, do)
		}
	}
	codesOf(wordsOver("abcd", 2), 3, 1, do)
	codesOf(wordsOver("abcd", 2), 4, 3, do)
	for _, code := range goodCodes() {
		do(code)
	}
}

// allOrdersOf calls do with some words in each order.
func allOrdersOf(words []string, do func([]string)) {
	ordersOf(words, func(list []string) {
		if len(list) == len(words) {
			do(list)
		}
	})
}

// readableBy tells whether a code can be read, by two readers of the same text who begin with different words and go on letter by letter: it can, if they never end words at the same place.
func readableBy(list []string) bool {
	type reader struct{ word, place int }
	seen := map[[2]reader]bool{}
	var meet func(a reader, b reader) bool
	meet = func(a reader, b reader) bool {
		endA, endB := a.place == len(list[a.word]), b.place == len(list[b.word])
		if endB && !endA {
			return meet(b, a)
		}
		if endA && endB || seen[[2]reader{a, b}] {
			return endA && endB
		}
		seen[[2]reader{a, b}] = true
		if endA {
			return slices.ContainsFunc(places(list), func(next int) bool { return meet(reader{word: next}, b) })
		}
		return list[a.word][a.place] == list[b.word][b.place] && meet(reader{a.word, a.place + 1}, reader{b.word, b.place + 1})
	}
	for i := range list {
		for j := range i {
			if meet(reader{word: i}, reader{word: j}) {
				return false
			}
		}
	}
	return true
}

// places are the places in a list.
func places(list []string) []int {
	all := make([]int, len(list))
	for i := range list {
		all[i] = i
	}
	return all
}

// waysBy keeps of each text of at most so many letters that is made of words all rows of words that make it, by making all rows.
func waysBy(list []string, most int) map[string][][]string {
	ways := map[string][][]string{}
	var grow func(row []string, text string)
	grow = func(row []string, text string) {
		ways[text] = append(ways[text], slices.Clone(row))
		for _, word := range list {
			if len(text)+len(word) <= most {
				grow(append(row, word), text+word)
			}
		}
	}
	grow(make([]string, 0, most), "")
	return ways
}

// twoWaysBy tells the first text that is made in two ways, of all that are told by waysBy, or "" if there is none.
func twoWaysBy(ways map[string][][]string) string {
	first := ""
	for text, rows := range ways {
		if len(rows) > 1 && (first == "" || len(text) < len(first) || len(text) == len(first) && text < first) {
			first = text
		}
	}
	return first
}

// roundBy turns a text round letter by letter.
func roundBy(word string) string {
	round := ""
	for _, letter := range strings.Split(word, "") {
		round = letter + round
	}
	return round
}

// roundsBy turns each of some words round.
func roundsBy(list []string) []string {
	rounds := []string{}
	for _, word := range list {
		rounds = append(rounds, roundBy(word))
	}
	return rounds
}

// checkCode fails unless words are a code, or none, and if they are one, also without the last word, if they are two or more.
func checkCode(t *testing.T, list []string, want bool) {
	t.Helper()
	if impl.CodeOk(list) != want {
		t.Fatalf("%.300q: CodeOk is %v", list, !want)
	}
	if want && len(list) > 1 && !impl.CodeOk(list[:len(list)-1]) {
		t.Fatalf("%q: no code without the last word", list)
	}
}

// checkApart fails unless words are apart, or not, and if they are, can be read.
func checkApart(t *testing.T, list []string, want bool) {
	t.Helper()
	if impl.ApartOk(list) != want {
		t.Fatalf("%.300q: ApartOk is %v", list, !want)
	}
	if want && !impl.ReadableOk(list) {
		t.Fatalf("%q: apart, but ReadableOk is false", list)
	}
}

// checkReadable fails unless a code can be read, or not, turned round too, and if it can, has no text that is made in two ways.
func checkReadable(t *testing.T, list []string, want bool) {
	t.Helper()
	if impl.ReadableOk(list) != want {
		t.Fatalf("%q: ReadableOk is %v", list, !want)
	}
	if impl.ReadableOk(impl.RoundOf(list)) != want {
		t.Fatalf("%q: turned round ReadableOk is %v", list, !want)
	}
	if text, ok := impl.TwoWays(list); ok && want {
		t.Fatalf("%q can be read, but %q is made in two ways", list, text)
	}
}

// checkWays fails unless a text is made of words in so many ways, and these are as many as the first words and what is behind them tell.
func checkWays(t *testing.T, list []string, s string, want int) {
	t.Helper()
	got := impl.WaysOf(list, s)
	if got != want {
		t.Fatalf("%.300q: %.100q is made in %d ways, not %d", list, s, got, want)
	}
	if got == -1 || s == "" {
		return
	}
	sum := 0
	for _, word := range list {
		if strings.HasPrefix(s, word) {
			sum += impl.WaysOf(list, s[len(word):])
		}
	}
	if sum != got {
		t.Fatalf("%q: %q is made in %d ways, by first words in %d", list, s, got, sum)
	}
	if got > 1 && impl.ReadableOk(list) {
		t.Fatalf("%q can be read, but %q is made in %d ways", list, s, got)
	}
}

// checkTorn fails unless a text is torn into just these words, or refused if there are none.
func checkTorn(t *testing.T, list []string, s string, want ...string) {
	t.Helper()
	torn, ok := impl.TornOf(list, s)
	if ok != (len(want) > 0) || !slices.Equal(torn, want) || !ok && torn != nil {
		t.Fatalf("%.300q: %.100q is torn into %q, %v, not %q", list, s, torn, ok, want)
	}
	if !ok {
		return
	}
	if strings.Join(torn, "") != s || impl.WaysOf(list, s) != 1 {
		t.Fatalf("%q: %q is torn into %q", list, s, torn)
	}
	for _, word := range torn {
		if !slices.Contains(list, word) {
			t.Fatalf("%q: %q is torn into %q", list, s, torn)
		}
	}
}

// checkTwoWays fails unless a text is the first one that is made in two ways, or there is none if that is "".
func checkTwoWays(t *testing.T, list []string, want string) {
	t.Helper()
	text, ok := impl.TwoWays(list)
	if text != want || ok != (want != "") {
		t.Fatalf("%.300q: TwoWays %q, %v, not %q", list, text, ok, want)
	}
	if !ok {
		return
	}
	if impl.WaysOf(list, text) < 2 || impl.ReadableOk(list) {
		t.Fatalf("%q: %q is made in %d ways, and ReadableOk is %v", list, text, impl.WaysOf(list, text), impl.ReadableOk(list))
	}
	if impl.WaysOf(list, text[1:]) > 1 || impl.WaysOf(list, text[:len(text)-1]) > 1 {
		t.Fatalf("%q: %q is made in two ways without its first letter or its last one too", list, text)
	}
}

// checkRound fails unless words turned round are these, and turned round again the code.
func checkRound(t *testing.T, list []string, want ...string) {
	t.Helper()
	round := impl.RoundOf(list)
	if !slices.Equal(round, want) || !impl.CodeOk(round) {
		t.Fatalf("%q: RoundOf %q, not %q", list, round, want)
	}
	if again := impl.RoundOf(round); !slices.Equal(again, list) {
		t.Fatalf("%q: turned round twice %q", list, again)
	}
}

func TestConstantsOfCodes(t *testing.T) {
	if impl.MaxCode != 6 {
		t.Fatal(impl.MaxCode)
	}
}

// Promise 27: each letter alone, words of 1 to 9 letters, and 0 to 9 words.
func TestCodeOk(t *testing.T) {
	for letter := 'a'; letter <= 'z'; letter++ {
		for letters := range 10 {
			word := strings.Repeat(string(letter), letters)
			checkCode(t, []string{word}, letters >= 1 && letters <= 4)
			checkCode(t, []string{"ab", word}, letters >= 1 && letters <= 4)
			checkCode(t, []string{word, "ab", "ba"}, letters >= 1 && letters <= 4)
		}
	}
	for many := range 10 {
		checkCode(t, numbered("w", many), many >= 1 && many <= 6)
		checkCode(t, strings.Split("abcdefghi", "")[:many], many >= 1 && many <= 6)
		checkCode(t, wordsOver("abcdef", 4)[1000:][:many], many >= 1 && many <= 6)
	}
	for _, code := range goodCodes() {
		for many := range code {
			checkCode(t, code[:many+1], true)
			checkCode(t, code[many:], true)
		}
	}
	for _, list := range wrongCodes() {
		checkCode(t, list, false)
	}
}

// Promise 27: two words that are equal, at each two places of 2 to 6 words.
func TestCodeOkEqualWords(t *testing.T) {
	for _, words := range [][]string{{"a", "b", "c", "d", "e", "f"}, {"a", "aa", "aaa", "aaaa", "b", "ba"}, {"abcd", "abc", "ab", "dcba", "bcd", "cd"}} {
		for many := 2; many <= 6; many++ {
			for i := range many {
				for j := range many {
					list := slices.Clone(words[:many])
					list[i] = list[j]
					checkCode(t, list, i == j)
				}
			}
		}
	}
}

// Promise 27: each byte at each place of a word, and in each word of a code.
func TestCodeOkBytes(t *testing.T) {
	for b := range 256 {
		for _, word := range []string{"x", "xy", "xyx", "xyxy"} {
			for place := range word {
				other := word[:place] + string([]byte{byte(b)}) + word[place+1:]
				for at := range 6 {
					list := []string{"one", "two", "ten", "six", "nine", "five"}
					list[at] = other
					checkCode(t, list, b >= 'a' && b <= 'z')
				}
				checkCode(t, []string{other}, b >= 'a' && b <= 'z')
			}
		}
	}
	for _, stranger := range strangers() {
		want := stranger == "ones" || stranger == "on" || stranger == "zzzz" || stranger == "tenn" || stranger == "tens"
		checkCode(t, []string{stranger}, want)
		checkCode(t, []string{"one", stranger, "two"}, want)
	}
}

// Promise 27: all lists of some texts, whatever their order.
func TestCodeOkAllLists(t *testing.T) {
	codes := 0
	listsUpTo(7, []string{"a", "ab", "abcd", "abcde", ""}, func(list []string) {
		checkCode(t, list, isCode(list))
		if isCode(list) {
			codes++
		}
	})
	// Of three words: 3 alone, 6 rows of two, 6 of three.
	if codes != 15 {
		t.Fatalf("%d codes", codes)
	}
	allOrdersOf([]string{"a", "ab", "abc", "b", "bc", "c"}, func(list []string) { checkCode(t, list, true) })
}

// Promise 28: words that begin others, before them and behind them; words that end others, or are within them.
func TestApartOk(t *testing.T) {
	for _, list := range [][]string{
		{"a"}, {"abcd"}, {"a", "b"}, {"a", "ba"}, {"ba", "a"}, {"a", "ba", "bb"}, {"a", "bab"}, {"b", "abcb"}, {"bc", "abcd"}, {"bc", "abc"}, {"b", "abc"}, {"ab", "ba", "aab"}, {"b", "ab", "aab", "aaab"}, {"aaab", "aab", "ab", "b", "aaaa"},
		{"ab", "aa", "ba", "bb"}, {"abc", "abd"}, {"abcd", "abce", "abdd"}, {"one", "two", "ten", "six", "nine", "five"}, {"a", "b", "c", "d", "e", "f"}, {"ac", "ab"}, {"aab", "ab"},
	} {
		allOrdersOf(list, func(list []string) { checkApart(t, list, true) })
	}
	for _, list := range [][]string{
		{"a", "ab"}, {"a", "aa"}, {"a", "abcd"}, {"ab", "abcd"}, {"abc", "abcd"}, {"aaa", "aaaa"}, {"a", "b", "bc"}, {"b", "a", "ca", "bc"}, {"a", "ba", "bb", "baa"}, {"a", "ab", "bb"}, {"no", "now"}, {"six", "sixt", "ten"}, {"one", "two", "ten", "six", "nine", "ni"},
		{"a", "bcde", "b"}, {"cart", "tip", "ip", "car"}, {"a", "aa", "aaa", "aaaa"},
	} {
		allOrdersOf(list, func(list []string) { checkApart(t, list, false) })
	}
	for _, list := range wrongCodes() {
		checkApart(t, list, false)
	}
	// Without the word that is none they would be apart.
	for _, wrong := range []string{"", "abcde", "A", "b b", "ÿ", "b"} {
		checkApart(t, []string{"b", wrong}, false)
		checkApart(t, []string{wrong, "b"}, false)
	}
}

// Promise 28: of words of as many letters each it always holds.
func TestWordsOfAsManyLettersAreApart(t *testing.T) {
	for letters := 1; letters <= 4; letters++ {
		words := slices.DeleteFunc(wordsOver("abc", letters), func(word string) bool { return len(word) != letters })
		for many, each := range []int{1: 1, 2: 1, 3: 7, 4: 5003, 5: 50021} {
			if many > 0 {
				codesOf(words, many, each, func(list []string) { checkApart(t, list, true) })
			}
		}
	}
}

// Promise 28: in thousands of codes, against the sorted words, of which each that begins others stands just before one of them.
func TestApartOkOfManyCodes(t *testing.T) {
	apart, others := 0, 0
	someCodes(func(list []string) {
		sorted := slices.Sorted(slices.Values(list))
		want := true
		for i := 1; i < len(sorted); i++ {
			want = want && !strings.HasPrefix(sorted[i], sorted[i-1])
		}
		checkApart(t, list, want)
		if want {
			apart++
		} else {
			others++
		}
	})
	if apart < 1000 || others < 1000 {
		t.Fatalf("%d codes are apart, %d are not", apart, others)
	}
}

// Promise 29: codes told by hand, in each order of their words; some can be read though words begin others, and what is left over comes again and again.
func TestReadableOk(t *testing.T) {
	for _, list := range [][]string{
		{"a"}, {"z"}, {"aa"}, {"abab"}, {"aaaa"}, {"a", "b"}, {"a", "ba"}, {"aa", "ab", "ba", "bb"}, {"a", "b", "c", "d", "e", "f"}, {"one", "two", "ten", "six", "nine", "five"},
		{"a", "ab"}, {"a", "aab"}, {"a", "aaab"}, {"ab", "abb"}, {"ab", "abbb"}, {"aab", "aabb"}, {"a", "ab", "abb", "abbb"}, {"no", "now"}, {"a", "b", "cd", "cde"},
		{"a", "ab", "bb"}, {"b", "ab", "aabb"}, {"aa", "aaab", "b"}, {"ab", "abbb", "bbbb"}, {"a", "ab", "ac", "bb", "cc"}, {"a", "ab", "bc", "cd", "de"}, {"aaab", "aaa", "baba"},
		{"one", "ten", "tone", "net"}, {"a", "aba", "bb"},
	} {
		allOrdersOf(list, func(list []string) { checkReadable(t, list, true) })
	}
	for _, list := range [][]string{
		// What is left over is a word at once, or is what two words make.
		{"a", "aa"}, {"a", "ab", "b"}, {"ab", "abcd", "cd"}, {"no", "now", "w"}, {"ab", "abb", "baa", "b"}, {"a", "aaa"}, {"a", "aaaa"}, {"aa", "aaaa"}, {"a", "b", "c", "d", "e", "edcb"},
		// After some steps.
		{"aa", "aaa"}, {"aaa", "aaaa"}, {"a", "ab", "ba"}, {"a", "ac", "cb", "b"}, {"ab", "abba", "baab", "a"}, {"a", "ba", "bab"}, {"on", "one", "eon", "none"}, {"car", "cart", "tip", "ip"}, {"a", "ab", "bc", "cd", "de", "e"}, {"a", "ab", "bb", "bba"},
		// After many.
		{"a", "aaab", "abaa"}, {"a", "aaab", "baaa"}, {"a", "aaba", "baab"}, {"aa", "aaab", "aba", "baba"}, {"aa", "aaab", "abba", "baa"}, {"aa", "aaba", "abbb", "baab", "bbb"}, {"acac", "abbb", "cabb", "bbbc", "bca", "abb"}, {"aacb", "bbba", "baac", "cbbb", "acb", "aa"},
		// Readable ones with one word more, of which the last word alone is what is lacking.
		{"a", "ab", "bb", "b"}, {"a", "ab", "bb", "abb"}, {"aa", "aaab", "b", "ab"}, {"a", "ab", "ac", "bb", "cc", "acc"},
	} {
		allOrdersOf(list, func(list []string) { checkReadable(t, list, false) })
	}
	for _, list := range wrongCodes() {
		checkReadable(t, list, false)
	}
}

// Promise 29: without any of their words these codes can be read, as every word is needed for a text that is made in two ways.
func TestReadableOkWithoutAWord(t *testing.T) {
	for _, list := range [][]string{{"a", "ab", "b"}, {"a", "ac", "cb", "b"}, {"a", "ab", "bc", "cd", "de", "e"}, {"car", "cart", "tip", "ip"}, {"aa", "aaab", "abba", "baa"}, {"abbb", "cabb", "bbbc", "bca", "abb"}, {"aa", "aaba", "abbb", "baab", "bbb"}, {"aacb", "bbba", "baac", "cbbb", "acb", "aa"}} {
		checkReadable(t, list, false)
		for place := range list {
			checkReadable(t, slices.Delete(slices.Clone(list), place, place+1), true)
		}
	}
}

// Promise 29: in thousands of codes, against two readers who go on letter by letter.
func TestReadableOkOfManyCodes(t *testing.T) {
	apart, readable, others, without := 0, 0, 0, 0
	someCodes(func(list []string) {
		want := readableBy(list)
		checkReadable(t, list, want)
		_, twice := impl.TwoWays(list)
		switch {
		case want && impl.ApartOk(list):
			apart++
		case want:
			readable++
		case twice || len(list) > 4:
			others++
		default:
			without++
		}
	})
	if apart < 1000 || readable < 1000 || others < 1000 || without < 100 {
		t.Fatalf("%d codes are apart, %d others can be read, %d not, and %d not though no short text is made in two ways", apart, readable, others, without)
	}
}

// Promise 30: ways told by hand.
func TestWaysOf(t *testing.T) {
	for _, c := range []struct {
		code string
		text string
		ways int
	}{
		{"a", "a", 1}, {"a", "aaaa", 1}, {"a", "b", 0}, {"a", "ab", 0}, {"a", "ba", 0}, {"a", "aba", 0}, {"ab", "a", 0}, {"ab", "ab", 1}, {"ab", "aba", 0}, {"ab", "abab", 1}, {"ab", "abb", 0}, {"abcd", "abcdabcd", 1}, {"abcd", "abcdabc", 0},
		{"a b", "abba", 1}, {"a b", "abc", 0}, {"a b", "cab", 0}, {"a b", "acb", 0}, {"a ab", "ab", 1}, {"a ab", "aab", 1}, {"a ab", "abb", 0}, {"a ab", "b", 0}, {"a ab", "ba", 0},
		{"a ab bb", "abbb", 1}, {"a ab bb", "abb", 1}, {"a ab bb", "abbbb", 1}, {"a ab bb", "bbab", 1}, {"a ab bb", "bab", 0},
		{"a ab b", "ab", 2}, {"a b ab", "abab", 4}, {"a b ab", "ababab", 8}, {"a b ab", "aabb", 2}, {"a b ab", "ba", 1}, {"a b ab", "baab", 2}, {"a b ab", "abc", 0}, {"a b ab", "cab", 0}, {"a b ab", "abcab", 0},
		{"aa aaa", "a", 0}, {"aa aaa", "aa", 1}, {"aa aaa", "aaa", 1}, {"aa aaa", "aaaa", 1}, {"aa aaa", "aaaaa", 2}, {"aa aaa", "aaaaaa", 2}, {"aa aaa", "aaaaaaa", 3}, {"aaa aaaa", "aaaaa", 0}, {"aaa aaaa", "aaaaaa", 1}, {"aaa aaaa", "aaaaaaa", 2},
		{"a aa", "a", 1}, {"a aa", "aa", 2}, {"a aa", "aaa", 3}, {"a aa", "aaaa", 5}, {"a aa", "aaaaa", 8}, {"a aa", "aaaaaa", 13}, {"a aa aaa", "aaaa", 7}, {"a aa aaa aaaa", "aaaa", 8}, {"a aa aaa aaaa", "aaaaa", 15},
		{"abb ab baa b", "abb", 2}, {"car cart tip ip", "cartip", 2}, {"car cart tip ip", "cart", 1}, {"car cart tip ip", "carip", 1}, {"car cart tip ip", "carti", 0}, {"acac abbb cabb bbbc bca abb", "abbbcabbbcabbbcabb", 2},
		{"a b c d e f", "fedcba", 1}, {"a b c d e f", "fedcbag", 0}, {"a ab abc abcd b bcd", "abcd", 2}, {"a ab abcd cd b bcd", "abcd", 4},
	} {
		code := strings.Fields(c.code)
		checkWays(t, code, c.text, c.ways)
		slices.Reverse(code)
		checkWays(t, code, c.text, c.ways)
		checkWays(t, impl.RoundOf(code), roundBy(c.text), c.ways)
		checkWays(t, code, "", 1)
	}
}

// Promise 30: texts of up to 24 bytes, of 25 and more and of very many, of letters and of other bytes.
func TestWaysOfLongTexts(t *testing.T) {
	for _, c := range []struct {
		code string
		text string
		ways int
	}{
		{"a", "a", 1}, {"b", "a", 0}, {"a aa", "a", 46368 + 28657}, {"a aa aaa aaaa", "a", 3919944}, {"aaaa aaa aa a", "a", 3919944}, {"aa", "a", 1}, {"aaa", "a", 1}, {"aaaa", "a", 1},
		{"a b ab", "ab", 4096}, {"abc a b c", "abc", 256}, {"abcd ab cd", "abcd", 64}, {"abcd ab cd bc a d", "abcd", 729}, {"abc", "abcd", 0}, {"aa ab", "a", 1},
	} {
		code := strings.Fields(c.code)
		checkWays(t, code, strings.Repeat(c.text, 24)[:24], c.ways)
		for many := range 40 {
			text := strings.Repeat(c.text, many)[:many]
			want := -1
			if many <= 24 {
				// What the function itself tells: these are only compared with what their first words tell.
				want = impl.WaysOf(code, text)
			}
			checkWays(t, code, text, want)
		}
		checkWays(t, code, strings.Repeat(c.text, 1000000), -1)
	}
	for many := range 24 {
		checkWays(t, []string{"aaaa"}, strings.Repeat("a", many), max(0, 1-many%4))
		checkWays(t, []string{"aaa"}, strings.Repeat("a", many), max(0, 1-many%3))
	}
	// The bytes count, not the characters: twelve of two bytes each, and one more byte.
	checkWays(t, []string{"a"}, strings.Repeat("\xc3\xa4", 12), 0)
	checkWays(t, []string{"a"}, strings.Repeat("\xc3\xa4", 12)+"a", -1)
	checkWays(t, []string{"a"}, strings.Repeat("\xc3\xa4", 13), -1)
}

// Promise 30: each byte in front of, behind and within a text.
func TestWaysOfBytes(t *testing.T) {
	for b := range 256 {
		one := string([]byte{byte(b)})
		want := 0
		if one == "a" {
			want = 1
		}
		for _, s := range []string{one, one + "a", "a" + one, "a" + one + "a", strings.Repeat("a", 23) + one, one + strings.Repeat("a", 23)} {
			checkWays(t, []string{"a"}, s, want)
		}
		checkWays(t, []string{"a"}, strings.Repeat("a", 24)+one, -1)
		for _, s := range []string{"ab" + one, one + "ab", "ab" + one + "ab", strings.Repeat("ab", 11) + one} {
			if one != "a" && one != "b" {
				checkWays(t, []string{"a", "b", "ab"}, s, 0)
				checkTorn(t, []string{"a", "b", "ab"}, s)
			}
		}
	}
	for _, s := range []string{" ", "a ", " a", "a a", "A", "aA", "\x00", "a\x00", "\xff\xff", "\xc3\xa4", "a\n", "`", "{"} {
		checkWays(t, []string{"a"}, s, 0)
		checkTorn(t, []string{"a"}, s)
	}
}

// Promises 30 and 31: of words that are no code no text is made, not even the empty one.
func TestWaysOfWrongCodes(t *testing.T) {
	for _, list := range wrongCodes() {
		for _, s := range []string{"", "a", "b", "ab", "abc", "abcde", "A", " ", "\xff", "one", "abcdefg", strings.Repeat("a", 24), strings.Repeat("a", 25)} {
			checkWays(t, list, s, -1)
			checkTorn(t, list, s)
		}
		text := strings.Join(list, "")
		checkWays(t, list, text, -1)
		checkTorn(t, list, text)
	}
}

// Promises 30 and 31: in thousands of codes, all texts of up to six of their letters and of one other, against all rows of words.
func TestWaysAndWordsOfManyTexts(t *testing.T) {
	none, once, often := 0, 0, 0
	check := func(list []string, letters string, most int) {
		ways := waysBy(list, most)
		for _, s := range append(wordsOver(letters, most), "") {
			rows := ways[s]
			checkWays(t, list, s, len(rows))
			switch {
			case len(rows) == 0:
				none++
			case len(rows) == 1:
				once++
			default:
				often++
			}
			if len(rows) == 1 {
				checkTorn(t, list, s, rows[0]...)
			} else {
				checkTorn(t, list, s)
			}
		}
	}
	for many, each := range []int{1: 1, 2: 1, 3: 13, 4: 101, 5: 1009, 6: 5003} {
		if many > 0 {
			codesOf(wordsOver("ab", 4), many, each, func(list []string) { check(list, "ab", 6) })
		}
	}
	for many, each := range []int{1: 1, 2: 5, 3: 101, 4: 2003, 5: 20011} {
		if many > 0 {
			codesOf(wordsOver("abc", 3), many, each, func(list []string) { check(list, "abcd", 4) })
		}
	}
	if none < 10000 || once < 10000 || often < 1000 {
		t.Fatalf("%d texts are made in no way, %d in one, %d in more", none, once, often)
	}
}

// Promises 30 and 31: texts of many words, all that are made of up to 14 letters, or of fewer if these are a thousand.
func TestWaysAndWordsOfLongTexts(t *testing.T) {
	for _, list := range goodCodes() {
		ways := waysBy(list, 4)
		for most := 5; most <= 14 && len(ways) < 1000; most++ {
			ways = waysBy(list, most)
		}
		for s, rows := range ways {
			checkWays(t, list, s, len(rows))
			if len(rows) == 1 {
				checkTorn(t, list, s, rows[0]...)
			} else {
				checkTorn(t, list, s)
			}
		}
	}
}

// Promise 31: words told by hand.
func TestTornOf(t *testing.T) {
	for _, c := range []struct{ code, text, words string }{
		{"a", "a", "a"}, {"a", "aaa", "a a a"}, {"abcd", "abcd", "abcd"}, {"abcd", "abcdabcd", "abcd abcd"}, {"a b", "abba", "a b b a"}, {"one two ten", "twoten", "two ten"}, {"one two ten", "onetwoone", "one two one"},
		{"a ab", "ab", "ab"}, {"a ab", "a", "a"}, {"a ab", "aab", "a ab"}, {"a ab", "aba", "ab a"}, {"a ab bb", "abbb", "ab bb"}, {"a ab bb", "abb", "a bb"}, {"a ab bb", "abbbb", "a bb bb"}, {"a ab bb", "aabbb", "a ab bb"}, {"a ab bb", "bbab", "bb ab"},
		// Codes that cannot be read tear texts that are made in one way alone.
		{"a ab b", "ba", "b a"}, {"a b ab", "bbaa", "b b a a"}, {"aa aaa", "aaaa", "aa aa"}, {"aa aaa", "aaa", "aaa"}, {"aaa aaaa", "aaaaaaaa", "aaaa aaaa"}, {"car cart tip ip", "carip", "car ip"}, {"car cart tip ip", "carttip", "cart tip"},
		{"car cart tip ip", "tipcart", "tip cart"}, {"a ab abc abcd", "abcd", "abcd"}, {"a ab bc cd", "abcd", "ab cd"}, {"ab abc cd de", "abcde", "abc de"}, {"ab abc cd e", "abcde", "ab cd e"}, {"ab abc cd de e", "abcde", ""}, {"ab abc cd e", "abce", "abc e"},
		{"a aa", "a", "a"}, {"a aa", "aa", ""}, {"a b ab", "ab", ""}, {"a b ab", "bab", ""}, {"a b ab", "aab", ""}, {"aa aaa", "aaaaa", ""}, {"car cart tip ip", "cartip", ""}, {"car cart tip ip", "carcartip", ""}, {"a aa aaa aaaa", "aaaa", ""},
		{"a", "b", ""}, {"a", "ab", ""}, {"a", "ba", ""}, {"ab", "a", ""}, {"ab", "aba", ""}, {"ab", "abb", ""}, {"a ab", "abb", ""}, {"one two ten", "onetw", ""}, {"one two ten", "netwo", ""}, {"one two ten", "one two", ""}, {"one two ten", "oneTwo", ""}, {"one two ten", "onetwo\n", ""},
	} {
		checkTorn(t, strings.Fields(c.code), c.text, strings.Fields(c.words)...)
		checkTorn(t, strings.Fields(roundBy(c.code)), roundBy(c.text), strings.Fields(roundBy(c.words))...)
	}
	for _, list := range goodCodes() {
		checkTorn(t, list, "")
		for _, word := range list {
			if impl.ReadableOk(list) {
				checkTorn(t, list, word, word)
			}
		}
	}
	for _, list := range wrongCodes() {
		checkTorn(t, list, "")
		for _, word := range list[:min(len(list), 30)] {
			checkTorn(t, list, word)
		}
	}
}

// Promise 31: texts of 24 bytes, of 25 and of very many, made of one word many times, and of several.
func TestTornOfLongTexts(t *testing.T) {
	for _, word := range []string{"a", "ab", "abc", "abcd"} {
		for many := 1; many <= 30; many++ {
			for _, list := range [][]string{{word}, {"z", word}, {word, word[:1] + "z"}} {
				want := slices.Repeat([]string{word}, many)
				if many*len(word) > 24 {
					want = nil
				}
				checkTorn(t, list, strings.Repeat(word, many), want...)
			}
		}
		checkTorn(t, []string{word}, strings.Repeat(word, 1000000))
	}
	list := []string{"a", "ab", "bb"}
	checkTorn(t, list, "a"+strings.Repeat("b", 22), append([]string{"a"}, slices.Repeat([]string{"bb"}, 11)...)...)
	checkTorn(t, list, "a"+strings.Repeat("b", 23), append([]string{"ab"}, slices.Repeat([]string{"bb"}, 11)...)...)
	checkTorn(t, list, "a"+strings.Repeat("b", 24))
	checkTorn(t, list, "aa"+strings.Repeat("b", 22), append([]string{"a", "a"}, slices.Repeat([]string{"bb"}, 11)...)...)
	checkTorn(t, list, "aa"+strings.Repeat("b", 23))
	// Only the end, 24 bytes from the beginning, tells that there are two ways, or one, or none.
	checkTorn(t, []string{"a", "ab", "bb", "b"}, strings.Repeat("b", 22)+"a"+"a")
	checkTorn(t, []string{"a", "b", "ac", "c"}, strings.Repeat("b", 22)+"ac")
	checkTorn(t, []string{"a", "b", "ac", "c"}, strings.Repeat("b", 22)+"ca", append(slices.Repeat([]string{"b"}, 22), "c", "a")...)
	checkTorn(t, []string{"a", "b", "ac", "c"}, strings.Repeat("b", 22)+"cd")
}

// Promise 32: texts told by hand: of the fewest letters, and of these the first one in the order of bytes; six letters, and seven; four words, and five.
func TestTwoWays(t *testing.T) {
	for _, c := range []struct{ code, text string }{
		{"a aa", "aa"}, {"a ab b", "ab"}, {"a aaa", "aaa"}, {"a aaaa", "aaaa"}, {"aa aaaa", "aaaa"}, {"aa aaa", "aaaaa"}, {"ab abb baa b", "abb"}, {"a ab ba", "aba"}, {"a ac cb b", "acb"}, {"a ab bb bba", "bba"}, {"a ba bab", "baba"},
		{"on one eon none", "oneon"}, {"ab abba baab a", "abaab"}, {"ab aba ba", "ababa"}, {"no now w", "now"}, {"a aa aaa aaaa", "aa"},
		// More than one text of as many letters, and texts that are earlier in the order of bytes, but longer.
		{"a aa b bb", "aa"}, {"b bb", "bb"}, {"aa aaa b bb", "bb"}, {"a ab b ba", "ab"}, {"b ba a", "ba"}, {"z zz aaa aa", "zz"}, {"c b bc cb", "bc"}, {"ab abab c cc", "cc"}, {"b bbb aa aaa", "bbb"}, {"bc b c cb", "bc"},
		// Of six letters, and of seven and more.
		{"car cart tip ip", "cartip"}, {"a aaab abaa", "aaabaa"}, {"aabb aa bbaa", "aabbaa"}, {"a aaab baaa", ""}, {"aaa aaaa", ""}, {"a aaba baab", ""}, {"aa aaab aba baba", ""}, {"aa aaab abba baa", ""},
		// Codes that can be read.
		{"a", ""}, {"aaaa", ""}, {"a b c d", ""}, {"a ab", ""}, {"a ab bb", ""}, {"aa aaab b", ""}, {"a ab abb abbb", ""}, {"one ten tone net", ""}, {"ab abc d cde", ""},
		// Of five words and of six.
		{"a aa b c d", ""}, {"a aa b c d e", ""}, {"a aa aaa aaaa b", ""}, {"a b c d ab", ""}, {"a b c d e f", ""}, {"aa aaba abbb baab bbb", ""},
	} {
		allOrdersOf(strings.Fields(c.code), func(list []string) { checkTwoWays(t, list, c.text) })
	}
	for _, list := range wrongCodes() {
		checkTwoWays(t, list, "")
	}
	checkTwoWays(t, []string{"a", "aa", "aaaaa"}, "")
	checkTwoWays(t, []string{"a", "aa", "a"}, "")
	checkTwoWays(t, []string{"a", "aa", ""}, "")
}

// Promise 32: a text may be made in two ways of one word less, but not of five.
func TestTwoWaysOfFourWordsAndFive(t *testing.T) {
	for _, list := range [][]string{{"a", "aa", "b", "c", "d"}, {"a", "aa", "aaa", "aaaa", "b"}, {"ab", "abb", "b", "baa", "c"}, {"aa", "aaa", "b", "c", "d"}} {
		checkTwoWays(t, list, "")
		checkTwoWays(t, append(slices.Clone(list), "zzz"), "")
		checkTwoWays(t, list[:4], twoWaysBy(waysBy(list[:4], 6)))
		if _, ok := impl.TwoWays(list[:4]); !ok || impl.ReadableOk(list) {
			t.Fatalf("%q: %v of the first four words, ReadableOk %v", list, ok, impl.ReadableOk(list))
		}
	}
}

// Promise 32: in thousands of codes, against all rows of words of up to six letters.
func TestTwoWaysOfManyCodes(t *testing.T) {
	letters := [8]int{}
	someCodes(func(list []string) {
		want := ""
		if len(list) <= 4 {
			want = twoWaysBy(waysBy(list, 6))
		}
		checkTwoWays(t, list, want)
		letters[len(want)]++
	})
	for many, found := range letters {
		if (found > 20) != (many == 0 || many >= 2 && many <= 6) {
			t.Fatalf("%d codes have texts of %d letters", found, many)
		}
	}
}

// Promise 33: words turned round by hand; words that are the same turned round, and words that are each other.
func TestRoundOf(t *testing.T) {
	checkRound(t, []string{"abb"}, "bba")
	checkRound(t, []string{"ab"}, "ba")
	checkRound(t, []string{"abcd"}, "dcba")
	checkRound(t, []string{"one", "two", "ten", "six", "nine", "five"}, "eno", "owt", "net", "xis", "enin", "evif")
	checkRound(t, []string{"a", "aa", "aba", "abba"}, "a", "aa", "aba", "abba")
	checkRound(t, []string{"ab", "ba"}, "ba", "ab")
	checkRound(t, []string{"abc", "x", "cba", "xyx"}, "cba", "x", "abc", "xyx")
	checkRound(t, []string{"a", "ab", "bb"}, "a", "ba", "bb")
	for letter := 'a'; letter <= 'z'; letter++ {
		checkRound(t, []string{string(letter)}, string(letter))
		checkRound(t, []string{string(letter) + "m", "m"}, "m"+string(letter), "m")
	}
	someCodes(func(list []string) { checkRound(t, list, roundsBy(list)...) })
	for _, list := range wrongCodes() {
		if round := impl.RoundOf(list); round != nil {
			t.Fatalf("%.300q: RoundOf %.300q", list, round)
		}
	}
}

// No function of the chapter writes into a list, or behind it, whether it is a code or not.
func TestCodesStay(t *testing.T) {
	for _, given := range append(goodCodes(), wrongCodes()...) {
		g := guard(given, spareWord)
		impl.CodeOk(g.list)
		g.check(t, "CodeOk")
		impl.ApartOk(g.list)
		g.check(t, "ApartOk")
		impl.ReadableOk(g.list)
		g.check(t, "ReadableOk")
		for _, s := range []string{"", "a", "ab", "aab", "abb", "aaaaa", strings.Repeat("a", 24), strings.Repeat("a", 25), "b", "\xff", strings.Join(given, "")} {
			impl.WaysOf(g.list, s)
			g.check(t, "WaysOf")
			impl.TornOf(g.list, s)
			g.check(t, "TornOf")
		}
		impl.TwoWays(g.list)
		g.check(t, "TwoWays")
		impl.RoundOf(g.list)
		g.check(t, "RoundOf")
	}
}

// What is written into a result, and behind it, is found neither in the code nor in other results.
func TestWordsOfCodesAreNew(t *testing.T) {
	for _, given := range goodCodes() {
		texts := append(slices.Clone(given), "a", "aaaa", strings.Repeat(given[0], 3), strings.Join(given, ""))
		for _, s := range texts {
			words := func(list []string) []string { torn, _ := impl.TornOf(list, s); return torn }
			for _, result := range []func([]string) []string{words, impl.RoundOf} {
				g := guard(given, spareWord)
				first := result(g.list)
				want := slices.Clone(first)
				second := result(g.list)
				scribble(first, otherWord)
				g.check(t, "a result")
				if again := result(g.list); !slices.Equal(second, want) || !slices.Equal(again, want) {
					t.Fatalf("%q, %q: %q and %q, not %q", given, s, second, again, want)
				}
				scribble(g.list, otherWord)
				if !slices.Equal(second, want) {
					t.Fatalf("%q, %q: a result shares memory with the code: %q", given, s, second)
				}
			}
		}
	}
}

// An answer depends on the arguments alone, whatever was asked before, and is the same each time.
func TestCodesKeepNoState(t *testing.T) {
	for range 3 {
		checkReadable(t, []string{"a", "ab", "bb"}, true)
		checkReadable(t, []string{"a", "ab", "b"}, false)
		checkReadable(t, nil, false)
		checkWays(t, []string{"a", "ab", "b"}, "abab", 4)
		checkWays(t, []string{"a", "ab", "bb"}, "abab", 1)
		checkWays(t, []string{"a"}, "abab", 0)
		checkWays(t, nil, "abab", -1)
		checkTorn(t, []string{"a", "ab", "bb"}, "abb", "a", "bb")
		checkTorn(t, []string{"a", "abb"}, "abb", "abb")
		checkTorn(t, []string{"a", "abb", "bb"}, "abb")
		checkTwoWays(t, []string{"a", "abb", "bb"}, "abb")
		checkTwoWays(t, []string{"a", "ab", "bb"}, "")
		checkTwoWays(t, []string{"a", "ab", "b"}, "ab")
		checkRound(t, []string{"a", "abb", "bb"}, "a", "bba", "bb")
	}
}
