package tests

import (
	"math"
	"slices"
	"strings"
	"testing"

	"loop.example/numberwords/impl"
)

// numbered are so many different words, each the same letter and one that tells its place.
func numbered(letter string, many int) []string {
	words := make([]string, many)
	for i := range many {
		words[i] = letter + string(rune('a'+i))
	}
	return words
}

// tongueBy is a tongue with the bases 1, one more than the units, and the further ones.
func tongueBy(units int, further ...int) impl.Tongue {
	bases := append([]int{1, units + 1}, further...)
	return impl.Tongue{Units: numbered("u", units), Bases: bases, Names: numbered("n", len(bases)-1)}
}

// unitsAlone is a tongue of one base.
func unitsAlone(units ...string) impl.Tongue {
	return impl.Tongue{Units: units, Bases: []int{1}}
}

// tens is the tongue of the document's examples.
func tens() impl.Tongue {
	return impl.Tongue{
		Units: []string{"one", "two", "three", "four", "five", "six", "seven", "eight", "nine"},
		Bases: []int{1, 10, 100, 1000},
		Names: []string{"ten", "hundred", "thousand"},
	}
}

// goodTongues are tongues of one base and of more, with the fewest and the most units and bases.
func goodTongues() []impl.Tongue {
	return []impl.Tongue{
		unitsAlone("a"), unitsAlone("z"), unitsAlone("abcdefgh"), unitsAlone("zzzzzzzz"), unitsAlone("b", "a"),
		unitsAlone("a", "aa", "aaa", "aaaa", "aaaaa", "aaaaaa", "aaaaaaa", "aaaaaaaa"),
		unitsAlone(numbered("q", 19)...), unitsAlone(numbered("q", 20)...),
		{Units: []string{"a"}, Bases: []int{1}, Names: []string{}},
		{Units: []string{"a"}, Bases: []int{1, 2}, Names: []string{"b"}},
		{Units: []string{"a"}, Bases: []int{1, 2}, Names: []string{"aa"}},
		{Units: []string{"a", "b", "c"}, Bases: []int{1, 4, 16}, Names: []string{"f", "g"}},
		{Units: []string{"z", "y"}, Bases: []int{1, 3, 5, 6, 999999}, Names: []string{"x", "w", "v", "u"}},
		tens(), tongueBy(1), tongueBy(20), tongueBy(9, 100), tongueBy(9, 20, 25), tongueBy(1, 3, 4, 5),
		tongueBy(20, 400, 8000, 160000), tongueBy(20, 22, 23, 24), tongueBy(11, 60, 3600), tongueBy(4, 999997, 999998, 999999),
	}
}

// wrongTongues are no tongues, each for a reason of its own.
func wrongTongues() []impl.Tongue {
	list := []impl.Tongue{
		{}, {Units: []string{}, Bases: []int{}, Names: []string{}},
		{Bases: []int{1}}, {Units: []string{}, Bases: []int{1}}, {Bases: []int{1}, Names: []string{"a"}},
		{Bases: []int{1, 1}, Names: []string{"a"}}, {Bases: []int{1, 2}, Names: []string{"a"}},
		{Units: []string{"a"}}, {Names: []string{"a"}}, {Units: []string{"a"}, Names: []string{"b"}},
		unitsAlone(numbered("q", 21)...), unitsAlone(numbered("q", 22)...), tongueBy(21), tongueBy(21, 500), tongueBy(22),
		unitsAlone("a", "a"), unitsAlone("a", "b", "a"), unitsAlone("hundred", "hundred"),
		unitsAlone(""), unitsAlone("A"), unitsAlone("a", ""), unitsAlone("a b"), unitsAlone("abcdefghi"), unitsAlone("\xc3\xa4"), unitsAlone("a", "b1"),
		{Units: []string{"a"}, Bases: []int{1, 3}, Names: []string{"b"}}, {Units: []string{"a"}, Bases: []int{1, 4}, Names: []string{"b"}},
		{Units: []string{"a", "b"}, Bases: []int{1, 2}, Names: []string{"c"}}, {Units: []string{"a", "b"}, Bases: []int{1, 2, 3}, Names: []string{"c", "d"}},
		{Units: []string{"a"}, Bases: []int{1}, Names: []string{"b"}}, {Units: []string{"a"}, Bases: []int{1}, Names: []string{""}},
		{Units: []string{"a"}, Bases: []int{1, 2}}, {Units: []string{"a"}, Bases: []int{1, 2}, Names: []string{}}, {Units: []string{"a"}, Bases: []int{1, 2}, Names: []string{"b", "c"}},
		{Units: []string{"a"}, Bases: []int{1, 2}, Names: []string{"a"}}, {Units: []string{"a"}, Bases: []int{1, 2, 3}, Names: []string{"b", "b"}},
		{Units: []string{"a", "b"}, Bases: []int{1, 3, 9}, Names: []string{"c", "b"}}, {Units: []string{"a", "b"}, Bases: []int{1, 3, 9}, Names: []string{"a", "c"}},
		{Units: []string{"a", "a"}, Bases: []int{1, 3}, Names: []string{"b"}}, {Units: []string{"a", "a"}, Bases: []int{1, 2}, Names: []string{"b"}},
		{Units: []string{"a"}, Bases: []int{1, 2}, Names: []string{""}}, {Units: []string{"a"}, Bases: []int{1, 2}, Names: []string{"B"}},
		{Units: []string{"a"}, Bases: []int{1, 2, 4}, Names: []string{"b", "abcdefghi"}}, {Units: []string{""}, Bases: []int{1, 2}, Names: []string{"b"}},
		tongueBy(1, 3, 4, 5, 6), tongueBy(9, 100, 1000, 10000, 100000), tongueBy(9, 10), tongueBy(9, 9), tongueBy(9, 100, 100), tongueBy(9, 100, 50),
		tongueBy(9, 1000000), tongueBy(9, -1), tongueBy(9, 100, math.MaxInt), tongueBy(9, math.MinInt),
	}
	for _, b := range wrongBases() {
		list = append(list, impl.Tongue{Units: []string{"a"}, Bases: b, Names: numbered("n", max(len(b)-1, 0))})
	}
	return list
}

// isWord tells from the letters that there are alone whether a text is a word.
func isWord(text string) bool {
	rest := strings.Trim(text, "abcdefghijklmnopqrstuvwxyz")
	return rest == "" && len(text) > 0 && len(text) <= 8
}

// isTongue tells piece by piece what a tongue is.
func isTongue(t impl.Tongue) bool {
	words := append(slices.Clone(t.Units), t.Names...)
	ok := impl.BasesOk(t.Bases) && len(t.Units) >= 1 && len(t.Units) <= 20 && len(t.Names)+1 == len(t.Bases)
	ok = ok && (len(t.Bases) == 1 || t.Bases[1] == 1+len(t.Units))
	for i, word := range words {
		ok = ok && isWord(word) && slices.Index(words, word) == i
	}
	return ok
}

func sameTongue(t impl.Tongue, u impl.Tongue) bool {
	return slices.Equal(t.Units, u.Units) && slices.Equal(t.Bases, u.Bases) && slices.Equal(t.Names, u.Names)
}

func copyOf(t impl.Tongue) impl.Tongue {
	return impl.Tongue{Units: slices.Clone(t.Units), Bases: slices.Clone(t.Bases), Names: slices.Clone(t.Names)}
}

// withWord is a copy of a tongue with another word at a place among all its words.
func withWord(t impl.Tongue, place int, word string) impl.Tongue {
	u := copyOf(t)
	if place < len(u.Units) {
		u.Units[place] = word
	} else {
		u.Names[place-len(u.Units)] = word
	}
	return u
}

func wordAt(t impl.Tongue, place int) string {
	if place < len(t.Units) {
		return t.Units[place]
	}
	return t.Names[place-len(t.Units)]
}

// strangers are texts that are words of no tongue here, or no words at all.
func strangers() []string {
	return []string{"", " ", "0", "1", "One", "ONE", "one ", " one", "ones", "on", "zzzz", "tenn", "tens", "one two", "aaaaaaaaa", "a\x00", "\xff", "\xc3\xa4", "ab\n", strings.Repeat("one", 5000)}
}

func TestConstantsOfTongues(t *testing.T) {
	if impl.MaxUnits != 20 || impl.MaxLetters != 8 {
		t.Fatal(impl.MaxUnits, impl.MaxLetters)
	}
}

// Promise 6.
func TestWordOk(t *testing.T) {
	for letter := 'a'; letter <= 'z'; letter++ {
		for many := range 12 {
			word := strings.Repeat(string(letter), many)
			if impl.WordOk(word) != (many >= 1 && many <= 8) {
				t.Errorf("%q: not %v", word, many >= 1 && many <= 8)
			}
		}
	}
	for _, word := range []string{"a", "z", "az", "one", "hundred", "thousand", "abcdefgh", "zyxwvuts"} {
		if !impl.WordOk(word) {
			t.Errorf("%q is a word", word)
		}
	}
	for _, text := range []string{
		"", "abcdefghi", "thousands", "Hundred", "hUndred", "hundreD", "HUNDRED", "1", "a1", "1a", "a1b", " ", "a ", " a", "a b",
		"a-b", "a_b", "a.b", "`", "{", "@", "[", "\x00", "a\x00", "\n", "a\n", "\t", "\x7f", "\x80", "\xff", "a\xffb",
		"\u00e4", "a\u00e9", "\u0430", "\uff41", "\u212a", "\xe1", strings.Repeat("a", 256), strings.Repeat("a", 257), strings.Repeat("a", 100000),
	} {
		if impl.WordOk(text) {
			t.Errorf("%q is no word", text)
		}
	}
}

// Promise 6: each byte at each place of words of each length.
func TestWordOkAtEachPlace(t *testing.T) {
	for many := 1; many <= 9; many++ {
		for place := range many {
			for b := range 256 {
				text := []byte("azbycxdwe")[:many]
				text[place] = byte(b)
				want := many <= 8 && b >= 97 && b <= 122
				if impl.WordOk(string(text)) != want {
					t.Fatalf("%q: not %v", text, want)
				}
			}
		}
	}
}

// Promise 6: a word and a letter behind it.
func TestWordsGrow(t *testing.T) {
	listsUpTo(9, []string{"a", "m", "z"}, func(letters []string) {
		word := strings.Join(letters, "")
		if impl.WordOk(word) != (len(word) >= 1 && len(word) <= 8) {
			t.Fatalf("%q: not as it should be", word)
		}
		for _, behind := range []string{"A", "1", " ", "\x00", "\xc3"} {
			if impl.WordOk(word + behind) {
				t.Fatalf("%q is no word", word+behind)
			}
		}
	})
}

// Promise 7.
func TestTongueOk(t *testing.T) {
	for i, tongue := range goodTongues() {
		if !impl.TongueOk(tongue) {
			t.Errorf("tongue %d: %v is a tongue", i, tongue)
		}
	}
	for i, tongue := range wrongTongues() {
		if impl.TongueOk(tongue) {
			t.Errorf("wrong tongue %d: %v is none", i, tongue)
		}
	}
}

// Promise 7: each number of units, alone and with a second base of each number beside it.
func TestTongueOkOfEachNumberOfUnits(t *testing.T) {
	for units := range 24 {
		words := numbered("u", units)
		if impl.TongueOk(unitsAlone(words...)) != (units >= 1 && units <= 20) {
			t.Errorf("%d units alone: not %v", units, units >= 1 && units <= 20)
		}
		for second := units - 2; second <= units+4; second++ {
			tongue := impl.Tongue{Units: words, Bases: []int{1, second}, Names: []string{"ten"}}
			want := units >= 1 && units <= 20 && second == units+1
			if impl.TongueOk(tongue) != want {
				t.Errorf("%d units, second base %d: not %v", units, second, want)
			}
		}
	}
}

// Promise 7: each number of names beside each number of bases.
func TestTongueOkOfEachNumberOfNames(t *testing.T) {
	all := []int{1, 4, 16, 64, 256, 1024}
	for bases := range len(all) + 1 {
		for names := range 8 {
			tongue := impl.Tongue{Units: numbered("u", 3), Bases: all[:bases], Names: numbered("n", names)}
			want := bases >= 1 && bases <= 5 && names == bases-1
			if impl.TongueOk(tongue) != want {
				t.Errorf("%d bases, %d names: not %v", bases, names, want)
			}
		}
	}
}

// Promise 7: at each place of all words a text that is none, and at each two places the same word.
func TestTongueOkAtEachPlace(t *testing.T) {
	for _, tongue := range goodTongues() {
		many := len(tongue.Units) + len(tongue.Names)
		for place := range many {
			for _, text := range []string{"", "A", "1", " ", "a ", "abcdefghi", "\xff", "\x00"} {
				if impl.TongueOk(withWord(tongue, place, text)) {
					t.Fatalf("%v with %q at the place %d is none", tongue, text, place)
				}
			}
			if !impl.TongueOk(withWord(tongue, place, "strange")) {
				t.Fatalf("%v with another word at the place %d is one", tongue, place)
			}
			for before := range place {
				if impl.TongueOk(withWord(tongue, place, wordAt(tongue, before))) {
					t.Fatalf("%v with equal words at the places %d and %d is none", tongue, before, place)
				}
			}
		}
	}
}

// Promise 7: all small tongues of a few words and bases, good and bad ones.
func TestTongueOkOfSmallTongues(t *testing.T) {
	words := []string{"a", "b", "aa", "A", ""}
	bases := [][]int{nil, {1}, {2}, {1, 2}, {1, 3}, {1, 4}, {1, 2, 3}, {1, 3, 7}, {1, 3, 3}}
	good := 0
	listsUpTo(3, words, func(units []string) {
		listsUpTo(2, words, func(names []string) {
			for _, b := range bases {
				tongue := impl.Tongue{Units: units, Bases: b, Names: names}
				want := isTongue(tongue)
				if impl.TongueOk(tongue) != want {
					t.Fatalf("%v: not %v", tongue, want)
				}
				if want {
					good++
				}
			}
		})
	})
	if good == 0 {
		t.Fatal("none of the small tongues is one")
	}
}

// Promise 7.
func TestOneUnitIsATongue(t *testing.T) {
	for letter := 'a'; letter <= 'z'; letter++ {
		for many := 1; many <= 8; many++ {
			word := strings.Repeat(string(letter), many)
			if !impl.TongueOk(unitsAlone(word)) || !impl.TongueOk(impl.Tongue{Units: []string{word}, Bases: []int{1}, Names: []string{}}) {
				t.Fatalf("%q alone is a tongue", word)
			}
		}
	}
}

// Promise 7.
func TestTonguesWithoutTheLastBase(t *testing.T) {
	for _, tongue := range goodTongues() {
		for last := len(tongue.Bases) - 1; last >= 1; last-- {
			less := impl.Tongue{Units: tongue.Units, Bases: tongue.Bases[:last], Names: tongue.Names[:last-1]}
			if !impl.TongueOk(less) {
				t.Fatalf("%v: without its last bases, %v, it is a tongue", tongue, less)
			}
			without := impl.Tongue{Units: tongue.Units, Bases: tongue.Bases[:last], Names: tongue.Names[:last]}
			if impl.TongueOk(without) {
				t.Fatalf("%v has a name for no base", without)
			}
		}
	}
}

// Promises 8 and 9: of each word of a tongue one of both functions tells what it stands for.
func TestUnitOfAndBaseOf(t *testing.T) {
	for _, tongue := range goodTongues() {
		for i, word := range tongue.Units {
			if n, ok := impl.UnitOf(tongue, word); !ok || n != i+1 {
				t.Errorf("%v: %q is the unit of %d, not %d, %v", tongue, word, i+1, n, ok)
			}
			if n, ok := impl.BaseOf(tongue, word); ok || n != -1 {
				t.Errorf("%v: %q is no base, not %d, %v", tongue, word, n, ok)
			}
		}
		for i := range len(tongue.Bases) - 1 {
			word := tongue.Names[i]
			if n, ok := impl.BaseOf(tongue, word); !ok || n != i+1 {
				t.Errorf("%v: %q is the base %d, not %d, %v", tongue, word, i+1, n, ok)
			}
			if n, ok := impl.UnitOf(tongue, word); ok || n != -1 {
				t.Errorf("%v: %q is no unit, not %d, %v", tongue, word, n, ok)
			}
		}
	}
}

// Promises 8 and 9: a few that are told by hand.
func TestUnitsAndBasesOfTens(t *testing.T) {
	for _, c := range []struct {
		word       string
		unit, base int
	}{
		{"one", 1, -1}, {"two", 2, -1}, {"nine", 9, -1}, {"ten", -1, 1}, {"hundred", -1, 2}, {"thousand", -1, 3}, {"eleven", -1, -1}, {"zero", -1, -1},
	} {
		if n, ok := impl.UnitOf(tens(), c.word); n != c.unit || ok != (c.unit > 0) {
			t.Errorf("UnitOf %q: %d, %v", c.word, n, ok)
		}
		if n, ok := impl.BaseOf(tens(), c.word); n != c.base || ok != (c.base > 0) {
			t.Errorf("BaseOf %q: %d, %v", c.word, n, ok)
		}
	}
}

// Promises 8 and 9: in tongues of one base no word names a base.
func TestTonguesOfOneBase(t *testing.T) {
	for _, tongue := range []impl.Tongue{unitsAlone("a"), unitsAlone("a", "b", "ten"), unitsAlone(numbered("q", 20)...)} {
		for i, word := range tongue.Units {
			if n, ok := impl.UnitOf(tongue, word); !ok || n != i+1 {
				t.Errorf("%v: UnitOf %q: %d, %v", tongue, word, n, ok)
			}
			if n, ok := impl.BaseOf(tongue, word); ok || n != -1 {
				t.Errorf("%v: BaseOf %q: %d, %v", tongue, word, n, ok)
			}
		}
		if list := impl.WordsOf(tongue); !slices.Equal(list, tongue.Units) {
			t.Errorf("%v: words %v", tongue, list)
		}
	}
}

// checkNeither fails if a text is a unit or a base.
func checkNeither(t *testing.T, tongue impl.Tongue, text string) {
	t.Helper()
	if n, ok := impl.UnitOf(tongue, text); ok || n != -1 {
		t.Errorf("%v: %q is no unit, not %d, %v", tongue, text, n, ok)
	}
	if n, ok := impl.BaseOf(tongue, text); ok || n != -1 {
		t.Errorf("%v: %q is no base, not %d, %v", tongue, text, n, ok)
	}
}

// Promises 8 and 9: texts that are no words of the tongue.
func TestStrangersAreNeitherUnitsNorBases(t *testing.T) {
	for _, tongue := range goodTongues() {
		for _, text := range strangers() {
			checkNeither(t, tongue, text)
		}
		for _, word := range append(slices.Clone(tongue.Units), tongue.Names...) {
			checkNeither(t, tongue, word+"x")
			checkNeither(t, tongue, strings.ToUpper(word))
			checkNeither(t, tongue, word+" ")
		}
	}
}

// Promises 8 and 9: in tongues that are none no word stands for anything, not even the words that are there.
func TestWordsOfWrongTonguesStandForNothing(t *testing.T) {
	for _, tongue := range wrongTongues() {
		for _, text := range append(strangers(), "a", "b") {
			checkNeither(t, tongue, text)
		}
		for _, word := range append(slices.Clone(tongue.Units), tongue.Names...) {
			checkNeither(t, tongue, word)
		}
	}
}

// Promise 10.
func TestWordsOf(t *testing.T) {
	want := []string{"one", "two", "three", "four", "five", "six", "seven", "eight", "nine", "ten", "hundred", "thousand"}
	if list := impl.WordsOf(tens()); !slices.Equal(list, want) {
		t.Fatal(list)
	}
	if list := impl.WordsOf(unitsAlone("b", "a")); !slices.Equal(list, []string{"b", "a"}) {
		t.Fatal(list)
	}
	for _, tongue := range goodTongues() {
		list := impl.WordsOf(tongue)
		if len(list) != len(tongue.Units)+len(tongue.Bases)-1 {
			t.Fatalf("%v: %d words", tongue, len(list))
		}
		seen := map[string]bool{}
		for i, word := range list {
			if word != wordAt(tongue, i) || !impl.WordOk(word) || seen[word] {
				t.Fatalf("%v: the word %q at the place %d", tongue, word, i)
			}
			seen[word] = true
		}
	}
	for _, tongue := range wrongTongues() {
		if list := impl.WordsOf(tongue); len(list) != 0 {
			t.Errorf("%v: words %v", tongue, list)
		}
	}
}

// Promise 11.
func TestSwappedOf(t *testing.T) {
	tongue := impl.Tongue{Units: []string{"a", "b", "c"}, Bases: []int{1, 4, 16}, Names: []string{"f", "g"}}
	for _, c := range []struct {
		a, b         int
		units, names string
	}{
		{0, 1, "b a c", "f g"}, {1, 0, "b a c", "f g"}, {0, 2, "c b a", "f g"}, {2, 1, "a c b", "f g"},
		{3, 4, "a b c", "g f"}, {4, 3, "a b c", "g f"},
		{0, 4, "g b c", "f a"}, {4, 0, "g b c", "f a"}, {2, 3, "a b f", "c g"}, {3, 1, "a f c", "b g"},
		{0, 0, "a b c", "f g"}, {2, 2, "a b c", "f g"}, {3, 3, "a b c", "f g"}, {4, 4, "a b c", "f g"},
	} {
		want := impl.Tongue{Units: strings.Fields(c.units), Bases: []int{1, 4, 16}, Names: strings.Fields(c.names)}
		if got, ok := impl.SwappedOf(tongue, c.a, c.b); !ok || !sameTongue(got, want) {
			t.Errorf("%d, %d: %v, %v, not %v", c.a, c.b, got, ok, want)
		}
	}
}

// Promise 11: each two places of each tongue.
func TestWordsExchangedAreATongue(t *testing.T) {
	for _, tongue := range goodTongues() {
		many := len(tongue.Units) + len(tongue.Names)
		for a := range many {
			for b := range many {
				swapped, ok := impl.SwappedOf(tongue, a, b)
				want := withWord(withWord(tongue, a, wordAt(tongue, b)), b, wordAt(tongue, a))
				if !ok || !sameTongue(swapped, want) || !impl.TongueOk(swapped) {
					t.Fatalf("%v, %d, %d: %v, %v, not %v", tongue, a, b, swapped, ok, want)
				}
				if again, ok := impl.SwappedOf(swapped, a, b); !ok || !sameTongue(again, tongue) {
					t.Fatalf("%v, %d, %d: exchanged again %v, %v", tongue, a, b, again, ok)
				}
			}
		}
	}
}

// checkNotSwapped fails if anything is exchanged.
func checkNotSwapped(t *testing.T, tongue impl.Tongue, a int, b int) {
	t.Helper()
	got, ok := impl.SwappedOf(tongue, a, b)
	if ok || len(got.Units)+len(got.Bases)+len(got.Names) != 0 {
		t.Errorf("%v, %d, %d: %v, %v", tongue, a, b, got, ok)
	}
}

// Promise 11: places and tongues that are none.
func TestNothingSwapped(t *testing.T) {
	for _, tongue := range goodTongues() {
		many := len(tongue.Units) + len(tongue.Names)
		for _, place := range []int{-1, -2, -many, many, many + 1, 2 * many, math.MaxInt, math.MinInt, math.MaxInt32, math.MinInt32} {
			for _, second := range []int{0, many - 1, place, -1, many} {
				checkNotSwapped(t, tongue, place, second)
				checkNotSwapped(t, tongue, second, place)
			}
		}
	}
	for _, tongue := range wrongTongues() {
		for a := -1; a < 4; a++ {
			for b := -1; b < 4; b++ {
				checkNotSwapped(t, tongue, a, b)
			}
		}
	}
}

// guardedTongue is a tongue each list of which is guarded.
type guardedTongue struct {
	units, names guarded[string]
	bases        guarded[int]
}

func guardTongue(t impl.Tongue) guardedTongue {
	return guardedTongue{units: guard(t.Units, spareWord), bases: guard(t.Bases, spare), names: guard(t.Names, spareWord)}
}

func (g guardedTongue) tongue() impl.Tongue {
	return impl.Tongue{Units: g.units.list, Bases: g.bases.list, Names: g.names.list}
}

func (g guardedTongue) check(t *testing.T, what string) {
	t.Helper()
	g.units.check(t, what+", units")
	g.bases.check(t, what+", bases")
	g.names.check(t, what+", names")
}

// scribbleTongue overwrites all of a tongue, with all spare capacity.
func scribbleTongue(t impl.Tongue) {
	scribble(t.Units, otherWord)
	scribble(t.Bases, other)
	scribble(t.Names, otherWord)
}

// No function of the chapter writes into a slice of a tongue, whether it is valid or not.
func TestTonguesArgumentsStay(t *testing.T) {
	for _, given := range append(goodTongues(), wrongTongues()...) {
		g := guardTongue(given)
		impl.TongueOk(g.tongue())
		g.check(t, "TongueOk")
		impl.WordsOf(g.tongue())
		g.check(t, "WordsOf")
		for _, word := range []string{"", "a", "ten", "A", spareWord} {
			impl.UnitOf(g.tongue(), word)
			g.check(t, "UnitOf")
			impl.BaseOf(g.tongue(), word)
			g.check(t, "BaseOf")
		}
		many := len(given.Units) + len(given.Names)
		for a := -1; a <= many; a++ {
			for b := -1; b <= many; b++ {
				impl.SwappedOf(g.tongue(), a, b)
			}
		}
		g.check(t, "SwappedOf")
	}
}

// What is written into the words, and behind them, is found neither in the tongue nor in other words.
func TestWordsAreNew(t *testing.T) {
	for _, given := range goodTongues() {
		g := guardTongue(given)
		first := impl.WordsOf(g.tongue())
		want := slices.Clone(first)
		second := impl.WordsOf(g.tongue())
		scribble(first, otherWord)
		g.check(t, "WordsOf")
		if !slices.Equal(second, want) || !slices.Equal(impl.WordsOf(g.tongue()), want) {
			t.Fatalf("%v: words share memory: %v", given, second)
		}
		scribbleTongue(g.tongue())
		if !slices.Equal(second, want) {
			t.Fatalf("%v: words share memory with the tongue: %v", given, second)
		}
	}
}

// A tongue with words exchanged shares memory neither with the tongue nor with another result, nor two of its lists with each other.
func TestSwappedTonguesAreNew(t *testing.T) {
	for _, given := range goodTongues() {
		last := len(given.Units) + len(given.Names) - 1
		for _, b := range []int{0, last} {
			g := guardTongue(given)
			first, _ := impl.SwappedOf(g.tongue(), 0, b)
			want := copyOf(first)
			second, _ := impl.SwappedOf(g.tongue(), 0, b)
			scribbleTongue(first)
			g.check(t, "SwappedOf")
			if !sameTongue(second, want) {
				t.Fatalf("%v: two results share memory: %v", given, second)
			}
			scribble(second.Units, otherWord)
			if !slices.Equal(second.Names, want.Names) {
				t.Fatalf("%v: names share memory with units: %v", given, second)
			}
			third, _ := impl.SwappedOf(g.tongue(), 0, b)
			scribble(third.Names, otherWord)
			if !slices.Equal(third.Units, want.Units) {
				t.Fatalf("%v: units share memory with names: %v", given, third)
			}
			fourth, _ := impl.SwappedOf(g.tongue(), 0, b)
			scribbleTongue(g.tongue())
			if !sameTongue(fourth, want) {
				t.Fatalf("%v: a result shares memory with the tongue: %v", given, fourth)
			}
		}
	}
}

// What is appended to one list of a result does not come into another one.
func TestSwappedTonguesGrowApart(t *testing.T) {
	swapped, ok := impl.SwappedOf(tens(), 0, 11)
	if !ok {
		t.Fatal("words at their places are exchanged")
	}
	want := copyOf(swapped)
	for range 40 {
		swapped.Units = append(swapped.Units, otherWord)
		swapped.Names = append(swapped.Names, otherWord)
		swapped.Bases = append(swapped.Bases, other)
	}
	swapped.Units, swapped.Bases, swapped.Names = swapped.Units[:9], swapped.Bases[:4], swapped.Names[:3]
	if !sameTongue(swapped, want) {
		t.Fatalf("%v, not %v", swapped, want)
	}
}

// An answer depends on the arguments alone, whatever was asked before: of equal words, other tongues told other things.
func TestTonguesKeepNoState(t *testing.T) {
	one := impl.Tongue{Units: []string{"a", "b"}, Bases: []int{1, 3}, Names: []string{"c"}}
	two := impl.Tongue{Units: []string{"c"}, Bases: []int{1, 2, 3}, Names: []string{"b", "a"}}
	for range 3 {
		for _, c := range []struct {
			tongue     impl.Tongue
			word       string
			unit, base int
		}{
			{one, "a", 1, -1}, {two, "a", -1, 2}, {one, "b", 2, -1}, {two, "b", -1, 1}, {one, "c", -1, 1}, {two, "c", 1, -1}, {impl.Tongue{}, "c", -1, -1},
		} {
			unit, _ := impl.UnitOf(c.tongue, c.word)
			base, _ := impl.BaseOf(c.tongue, c.word)
			if unit != c.unit || base != c.base {
				t.Fatalf("%v, %q: %d and %d, not %d and %d", c.tongue, c.word, unit, base, c.unit, c.base)
			}
		}
		impl.SwappedOf(one, 0, 2)
		if list := impl.WordsOf(one); !slices.Equal(list, []string{"a", "b", "c"}) {
			t.Fatal(list)
		}
	}
}
