package tests

import (
	"math"
	"slices"
	"strings"
	"testing"

	"loop.example/numberwords/impl"
)

// noughts is a tongue with a gap between its bases: 10 bounds what is named, and 100 to 999, told by tens alone, have no names.
func noughts() impl.Tongue {
	return impl.Tongue{
		Units: []string{"one", "two", "three", "four", "five", "six", "seven", "eight", "nine"},
		Bases: []int{1, 10, 1000},
		Names: []string{"ten", "thousand"},
	}
}

// namedTongues are tongues in which different bases bound what is named, and those of chapter 2.
func namedTongues() []impl.Tongue {
	return append(goodTongues(),
		noughts(), tongueBy(9, 99), tongueBy(9, 101), tongueBy(9, 250), tongueBy(9, 50, 3000), tongueBy(1, 4, 16, 256), tongueBy(1, 5),
		tongueBy(2, 8, 60, 3000), tongueBy(16, 289, 83521), tongueBy(16, 289, 83522), tongueBy(16, 289, 83520), tongueBy(4, 20, 100, 99999),
		tongueBy(9, 100, 1000, 10000), tongueBy(9, 100, 50000), tongueBy(9, 11, 12, 13), tongueBy(9, 99999), tongueBy(9, 100000), tongueBy(1, 100000),
		tongueBy(20, 316, 999999), tongueBy(20, 317, 999999), tongueBy(19, 400, 99999, 100000), tongueBy(3, 16),
	)
}

// textsBy makes the texts of the names of all numbers up to MaxNamed, "" for none.
func textsBy(t impl.Tongue) []string {
	return textsTo(t, 99999)
}

// textsTo makes the texts of the names of all numbers up to one, "" for none, without taking any number apart:
// from each base on, all names of fewer times than it tells are put in front of it, and all names of less behind it.
func textsTo(t impl.Tongue, most int) []string {
	texts := make([]string, most+1)
	copy(texts[1:], t.Units)
	for i := 1; i < len(t.Bases); i++ {
		base, next := t.Bases[i], most+1
		if i+1 < len(t.Bases) {
			next = min(next, t.Bases[i+1])
		}
		for times := 1; times < base && times*base < next; times++ {
			head := t.Names[i-1]
			if times > 1 {
				if texts[times] == "" {
					continue
				}
				head = texts[times] + " " + head
			}
			for left := 0; left < base && times*base+left < next; left++ {
				if left == 0 {
					texts[times*base] = head
				} else if texts[left] != "" {
					texts[times*base+left] = head + " " + texts[left]
				}
			}
		}
	}
	return texts
}

// checkName fails unless a number has the name with a text, or none if that is "", by all functions that tell of it.
func checkName(t *testing.T, tongue impl.Tongue, n int, text string) {
	t.Helper()
	list, ok := impl.NameOf(tongue, n)
	if ok != (text != "") || len(list) != len(strings.Fields(text)) || strings.Join(list, " ") != text {
		t.Fatalf("%v, %d: NameOf %q, %v, not %q", tongue, n, list, ok, text)
	}
	if got := impl.TextOf(tongue, n); got != text {
		t.Fatalf("%v, %d: TextOf %q, not %q", tongue, n, got, text)
	}
	want := len(strings.Fields(text))
	if text == "" {
		want = -1
	}
	if got := impl.LongOf(tongue, n); got != want {
		t.Fatalf("%v, %d: LongOf %d, not %d", tongue, n, got, want)
	}
}

func TestConstantsOfNames(t *testing.T) {
	if impl.MaxNamed != 99999 {
		t.Fatal(impl.MaxNamed)
	}
}

// Promises 12, 14 and 15: names told by hand, with noughts, and with bases that are taken once.
func TestNamesOfTens(t *testing.T) {
	for n, text := range map[int]string{
		1: "one", 2: "two", 9: "nine",
		10: "ten", 11: "ten one", 19: "ten nine", 20: "two ten", 21: "two ten one", 90: "nine ten", 99: "nine ten nine",
		100: "hundred", 101: "hundred one", 110: "hundred ten", 111: "hundred ten one", 120: "hundred two ten", 199: "hundred nine ten nine",
		200: "two hundred", 201: "two hundred one", 210: "two hundred ten", 234: "two hundred three ten four", 900: "nine hundred", 999: "nine hundred nine ten nine",
		1000: "thousand", 1001: "thousand one", 1010: "thousand ten", 1100: "thousand hundred", 1111: "thousand hundred ten one", 1900: "thousand nine hundred",
		2000: "two thousand", 2010: "two thousand ten", 9999: "nine thousand nine hundred nine ten nine",
		10000: "ten thousand", 10001: "ten thousand one", 10010: "ten thousand ten", 10100: "ten thousand hundred", 11000: "ten one thousand", 11111: "ten one thousand hundred ten one",
		12000: "ten two thousand", 20000: "two ten thousand", 20300: "two ten thousand three hundred", 40004: "four ten thousand four", 50607: "five ten thousand six hundred seven",
		21021: "two ten one thousand two ten one", 90000: "nine ten thousand", 99000: "nine ten nine thousand", 99999: "nine ten nine thousand nine hundred nine ten nine",
	} {
		checkName(t, tens(), n, text)
	}
}

// Promise 12: how often the greatest base goes into a number, against what the base tells.
func TestBasesThatAreTakenTooOften(t *testing.T) {
	three := impl.Tongue{Units: []string{"a", "b", "c"}, Bases: []int{1, 4}, Names: []string{"f"}}
	for n, text := range map[int]string{
		3: "c", 4: "f", 5: "f a", 8: "b f", 11: "b f c", 12: "c f", 15: "c f c", 16: "", 17: "", 19: "", 20: "", 63: "", 64: "", 99999: "",
	} {
		checkName(t, three, n, text)
	}
	for n, text := range map[int]string{
		// Once, one time less than ten, as often as ten, and more often.
		10: "ten", 89: "eight ten nine", 90: "nine ten", 99: "nine ten nine", 100: "", 101: "", 109: "", 110: "", 120: "", 500: "", 999: "",
		// What is left has a name, or none.
		1000: "thousand", 1001: "thousand one", 1099: "thousand nine ten nine", 1100: "", 1999: "", 2000: "two thousand", 2099: "two thousand nine ten nine", 2100: "",
		// How often the base is taken.
		10000: "ten thousand", 10100: "", 99000: "nine ten nine thousand", 99099: "nine ten nine thousand nine ten nine", 99100: "", 99999: "",
	} {
		checkName(t, noughts(), n, text)
	}
	// 250 is taken as often as a number that has no name, and less often than it tells.
	tongue := impl.Tongue{Units: tens().Units, Bases: []int{1, 10, 250}, Names: []string{"ten", "sack"}}
	for n, text := range map[int]string{
		99: "nine ten nine", 100: "", 249: "", 250: "sack", 349: "sack nine ten nine", 350: "", 24750: "nine ten nine sack", 24849: "nine ten nine sack nine ten nine", 24850: "",
		25000: "", 25001: "", 25010: "", 30000: "", 62249: "", 62250: "", 62499: "", 62500: "", 62501: "", 99999: "",
	} {
		checkName(t, tongue, n, text)
	}
	// The greatest base goes into numbers just as often as it tells, and one time less.
	great := impl.Tongue{Units: tens().Units, Bases: []int{1, 10, 100}, Names: []string{"ten", "hundred"}}
	for n, text := range map[int]string{
		9899: "nine ten eight hundred nine ten nine", 9900: "nine ten nine hundred", 9999: "nine ten nine hundred nine ten nine", 10000: "", 10001: "", 10100: "", 99999: "",
	} {
		checkName(t, great, n, text)
	}
}

// Promise 12: few units, and bases that do not divide each other.
func TestNamesOfSmallAndOddBases(t *testing.T) {
	two := impl.Tongue{Units: []string{"a"}, Bases: []int{1, 2}, Names: []string{"b"}}
	for n, text := range map[int]string{1: "a", 2: "b", 3: "b a", 4: "", 5: "", 6: "", 99999: ""} {
		checkName(t, two, n, text)
	}
	row := tongueBy(1, 3, 4, 5)
	for n, text := range map[int]string{
		1: "ua", 2: "na", 3: "nb", 4: "nc", 5: "nd", 6: "nd ua", 7: "nd na", 8: "nd nb", 9: "nd nc", 10: "na nd", 14: "na nd nc", 15: "nb nd", 24: "nc nd nc", 25: "", 26: "", 30: "",
	} {
		checkName(t, row, n, text)
	}
	five := tongueBy(1, 5)
	for n, text := range map[int]string{
		3: "na ua", 4: "", 5: "nb", 8: "nb na ua", 9: "", 10: "na nb", 13: "na nb na ua", 14: "", 15: "na ua nb", 18: "na ua nb na ua", 19: "", 20: "", 24: "", 25: "", 26: "",
	} {
		checkName(t, five, n, text)
	}
	odd := tongueBy(9, 20, 25)
	for n, text := range map[int]string{
		19: "na ui", 20: "nb", 24: "nb ud", 25: "nc", 49: "nc nb ud", 50: "ub nc", 500: "nb nc", 525: "nb ua nc", 624: "nb ud nc nb ud", 625: "",
	} {
		checkName(t, odd, n, text)
	}
}

// Promises 12, 14 and 15: in tongues of one base the units alone have names, up to the last one.
func TestNamesOfUnitsAlone(t *testing.T) {
	for units := 1; units <= 20; units++ {
		tongue := unitsAlone(numbered("u", units)...)
		for i, word := range tongue.Units {
			checkName(t, tongue, i+1, word)
		}
		for _, n := range []int{units + 1, units + 2, 2 * units * units, 21, 400, 99999} {
			if n > units {
				checkName(t, tongue, n, "")
			}
		}
		if got := impl.GreatestNamed(tongue); got != units {
			t.Fatalf("%d units alone: GreatestNamed %d", units, got)
		}
	}
}

// Promises 12, 13, 14 and 15: all numbers of all tongues, against names that are put together from the least on.
func TestAllNames(t *testing.T) {
	for _, tongue := range namedTongues() {
		texts := textsBy(tongue)
		step := 1
		for n := 1; n <= 99999; n += step {
			checkName(t, tongue, n, texts[n])
			// Small numbers all; of greater ones those that such a step, which is no multiple of a base, comes to.
			if n >= 3000 {
				step = 11
			}
		}
		for _, base := range tongue.Bases {
			for _, n := range []int{base - 1, base, base + 1, 2*base - 1, 2 * base, base*base - base, base*base - 1, base * base, base*base + 1, base*base + base} {
				if n >= 1 && n <= 99999 {
					checkName(t, tongue, n, texts[n])
				}
			}
		}
		for n := 99900; n <= 99999; n++ {
			checkName(t, tongue, n, texts[n])
		}
		want := slices.Index(texts[1:], "")
		if want < 0 {
			want = 99999
		}
		if got := impl.GreatestNamed(tongue); got != want {
			t.Fatalf("%v: GreatestNamed %d, not %d", tongue, got, want)
		}
	}
}

// Promise 12: what a name is made of.
func TestNamesAreNamesWithinNames(t *testing.T) {
	for _, tongue := range namedTongues() {
		words := impl.WordsOf(tongue)
		for n := 1; n <= 99999; n += 1 + n/300 {
			name, ok := impl.NameOf(tongue, n)
			if !ok {
				continue
			}
			if slices.ContainsFunc(name, func(word string) bool { return !slices.Contains(words, word) }) {
				t.Fatalf("%v, %d: not each word of %q is one of the tongue", tongue, n, name)
			}
			if n <= len(tongue.Units) {
				if len(name) != 1 || name[0] != tongue.Units[n-1] {
					t.Fatalf("%v, %d: the unit is %q", tongue, n, name)
				}
				continue
			}
			checkWithin(t, tongue, n, name)
		}
	}
}

// checkWithin fails unless a name is that of how often the greatest base is taken, the base, and that of what is left.
func checkWithin(t *testing.T, tongue impl.Tongue, n int, name []string) {
	t.Helper()
	place := 1
	for place+1 < len(tongue.Bases) && tongue.Bases[place+1] <= n {
		place++
	}
	base := tongue.Bases[place]
	if n/base > 1 {
		often, ok := impl.NameOf(tongue, n/base)
		if !ok || len(name) < len(often) || !slices.Equal(name[:len(often)], often) {
			t.Fatalf("%v, %d: %q does not begin with %q", tongue, n, name, often)
		}
		name = name[len(often):]
	}
	if len(name) == 0 || name[0] != tongue.Names[place-1] {
		t.Fatalf("%v, %d: no base in %q", tongue, n, name)
	}
	rest := []string{}
	if n%base > 0 {
		rest, _ = impl.NameOf(tongue, n%base)
	}
	if !slices.Equal(name[1:], rest) || n%base > 0 && len(rest) == 0 {
		t.Fatalf("%v, %d: %q is not what is left, %q", tongue, n, name[1:], rest)
	}
}

// unnamed are numbers that are not in 1..99999.
func unnamed() []int {
	return append(outside(), 0, 100000, 100001, 110000, 200000, 999000, 999999)
}

// Promises 12, 14 and 15: the numbers and the tongues that have no names.
func TestNoNames(t *testing.T) {
	for _, tongue := range namedTongues() {
		for _, n := range unnamed() {
			checkName(t, tongue, n, "")
		}
	}
	for _, tongue := range wrongTongues() {
		for _, n := range append(unnamed(), 1, 2, 3, 4, 9, 10, 11, 20, 100, 234, 1000, 99999) {
			checkName(t, tongue, n, "")
		}
	}
}

// Promises 12, 14 and 15: both ends of the numbers that may be named.
func TestMaxNamedAndTheNumberBehindIt(t *testing.T) {
	checkName(t, tens(), 99999, "nine ten nine thousand nine hundred nine ten nine")
	checkName(t, tens(), 100000, "")
	checkName(t, tongueBy(9, 100, 1000, 10000), 99999, "ui nd ui nc ui nb ui na ui")
	checkName(t, tongueBy(9, 100, 1000, 10000), 100000, "")
	checkName(t, tongueBy(9, 99999), 99999, "nb")
	checkName(t, tongueBy(9, 100000), 99999, "")
	checkName(t, tongueBy(9, 100000), 100000, "")
	checkName(t, tens(), 1, "one")
	checkName(t, tens(), 0, "")
	checkName(t, tens(), -1, "")
	checkName(t, tens(), -234, "")
}

// Promise 13.
func TestGreatestNamed(t *testing.T) {
	for _, c := range []struct {
		tongue impl.Tongue
		want   int
	}{
		// One base.
		{unitsAlone("a"), 1}, {unitsAlone("a", "b", "c"), 3}, {unitsAlone(numbered("u", 20)...), 20},
		// The greatest base of two.
		{tongueBy(1), 3}, {tongueBy(2), 8}, {tongueBy(3), 15}, {tongueBy(9), 99}, {tongueBy(20), 440},
		// A base but the greatest one: the second one, a later one, and the least one of two.
		{tongueBy(1, 5), 3}, {tongueBy(9, 101), 99}, {tongueBy(9, 1000), 99}, {tongueBy(9, 999999), 99},
		{tongueBy(9, 50, 3000), 2499}, {tongueBy(9, 50, 999999), 2499}, {tongueBy(4, 20, 100, 99999), 9999},
		{tongueBy(4, 30, 1000), 24}, {tongueBy(4, 20, 500, 999999), 399}, {tongueBy(2, 5, 6, 999999), 35},
		// The greatest base of more.
		{tongueBy(9, 99), 9800}, {tongueBy(9, 20, 25), 624}, {tongueBy(1, 3, 4, 5), 24}, {tongueBy(9, 11, 12, 13), 168}, {tongueBy(9, 50, 60), 3599},
		// The square of a base just the next base, one less and one more.
		{tongueBy(9, 100), 9999}, {tongueBy(9, 99), 9800}, {tongueBy(9, 101), 99},
		{tongueBy(1, 4), 15}, {tongueBy(1, 3), 8}, {tongueBy(1, 5), 3},
		{tongueBy(3, 16, 256), 65535}, {tongueBy(3, 16, 255), 65024}, {tongueBy(3, 16, 257), 255},
		{tongueBy(16, 289, 83521), 99999}, {tongueBy(16, 289, 83520), 99999}, {tongueBy(16, 289, 83522), 83520},
		// MaxNamed is the bound, whatever the squares are.
		{tens(), 99999}, {tongueBy(9, 100, 1000, 10000), 99999}, {tongueBy(9, 100, 316), 99855}, {tongueBy(9, 100, 317), 99999}, {tongueBy(9, 100, 315), 99224},
		{tongueBy(20, 316, 99856), 99999}, {tongueBy(20, 316, 99857), 99855}, {tongueBy(20, 317, 999999), 99999}, {tongueBy(20, 400, 160000), 99999}, {tongueBy(20, 400, 160001), 99999},
		{tongueBy(9, 100, 1000, 999999), 99999}, {tongueBy(20, 441, 194481), 99999}, {tongueBy(20, 440, 441, 999999), 99999},
	} {
		if got := impl.GreatestNamed(c.tongue); got != c.want {
			t.Errorf("%v: %d, not %d", c.tongue, got, c.want)
		}
		checkUpTo(t, c.tongue, c.want)
	}
	for _, tongue := range wrongTongues() {
		if got := impl.GreatestNamed(tongue); got != -1 {
			t.Errorf("%v: %d, but it is no tongue", tongue, got)
		}
	}
}

// checkUpTo fails unless 1 and a number have names, and one number more has none.
func checkUpTo(t *testing.T, tongue impl.Tongue, most int) {
	t.Helper()
	for _, n := range []int{1, most, most / 2, most - 1} {
		if _, ok := impl.NameOf(tongue, n); !ok && n >= 1 {
			t.Errorf("%v: %d has no name, but all up to %d have", tongue, n, most)
		}
	}
	if list, ok := impl.NameOf(tongue, most+1); ok {
		t.Errorf("%v: %d has the name %q, but only all up to %d have", tongue, most+1, list, most)
	}
}

// Promise 13: all small bases, against the first number that has no name.
func TestUpToSomeNumberAllAreNamed(t *testing.T) {
	for units := 1; units <= 4; units++ {
		listsUpTo(3, []int{2, 3, 4, 5, 8, 9, 10, 15, 16, 17, 24, 25, 26}, func(further []int) {
			tongue := tongueBy(units, further...)
			if !impl.TongueOk(tongue) {
				return
			}
			want := 1
			for impl.LongOf(tongue, want+1) > 0 {
				want++
			}
			if got := impl.GreatestNamed(tongue); got != want {
				t.Fatalf("%v: %d, not %d", tongue.Bases, got, want)
			}
		})
	}
}

// Promise 14: the second base and 1 are two words, unless the next number behind the second base is a base itself.
func TestLongOfBaseAndUnit(t *testing.T) {
	for _, tongue := range namedTongues() {
		if len(tongue.Bases) < 2 {
			continue
		}
		want := 2
		if slices.Contains(tongue.Bases, tongue.Bases[1]+1) {
			want = 1
		}
		if got := impl.LongOf(tongue, tongue.Bases[1]+1); got != want {
			t.Errorf("%v: %d has %d words, not %d", tongue, tongue.Bases[1]+1, got, want)
		}
	}
}

// Promise 14: lengths told by hand, of words named and of those that are not.
func TestLongOf(t *testing.T) {
	for n, want := range map[int]int{
		1: 1, 9: 1, 10: 1, 11: 2, 20: 2, 21: 3, 100: 1, 101: 2, 111: 3, 234: 5, 1000: 1, 1001: 2, 1111: 4, 10000: 2, 11000: 3, 12345: 8, 22222: 9, 99999: 9,
		0: -1, -1: -1, 100000: -1, math.MinInt: -1, math.MaxInt: -1,
	} {
		if got := impl.LongOf(tens(), n); got != want {
			t.Errorf("%d: %d, not %d", n, got, want)
		}
	}
	for n, want := range map[int]int{99: 3, 100: -1, 999: -1, 1000: 1, 1100: -1, 11000: 3, 10100: -1} {
		if got := impl.LongOf(noughts(), n); got != want {
			t.Errorf("%d: %d, not %d", n, got, want)
		}
	}
}

// Promise 15: of each base alone, if it is at most MaxNamed, the text is its name.
func TestTextsOfBases(t *testing.T) {
	for _, tongue := range namedTongues() {
		for i, base := range tongue.Bases[1:] {
			want := tongue.Names[i]
			if base > 99999 {
				want = ""
			}
			if got := impl.TextOf(tongue, base); got != want {
				t.Errorf("%v, %d: %q, not %q", tongue, base, got, want)
			}
		}
		if got := impl.TextOf(tongue, 1); got != tongue.Units[0] {
			t.Errorf("%v: 1 is %q", tongue, got)
		}
	}
}

// Promise 15: as many letters as all words, and one space fewer than words.
func TestTextsAreWordsWithSpaces(t *testing.T) {
	for _, tongue := range namedTongues() {
		for n := -3; n <= 100003; n += 1 + max(n, 0)/300 {
			name, ok := impl.NameOf(tongue, n)
			text := impl.TextOf(tongue, n)
			if !ok {
				if text != "" || len(name) != 0 {
					t.Fatalf("%v, %d: text %q, name %q, but there is none", tongue, n, text, name)
				}
				continue
			}
			spaces := strings.Count(text, " ")
			if spaces != len(name)-1 || len(text)-spaces != len(strings.Join(name, "")) || !slices.Equal(strings.Fields(text), name) {
				t.Fatalf("%v, %d: text %q of %q", tongue, n, text, name)
			}
		}
	}
}

// No function of the chapter writes into a slice of a tongue, whether it is valid or not.
func TestNamesArgumentsStay(t *testing.T) {
	for _, given := range append(namedTongues(), wrongTongues()...) {
		g := guardTongue(given)
		impl.GreatestNamed(g.tongue())
		g.check(t, "GreatestNamed")
		for _, n := range append(unnamed(), 1, 2, 3, 5, 15, 99, 100, 234, 999, 1000, 1100, 12000, 25000, 99999) {
			impl.NameOf(g.tongue(), n)
			g.check(t, "NameOf")
			impl.LongOf(g.tongue(), n)
			g.check(t, "LongOf")
			impl.TextOf(g.tongue(), n)
			g.check(t, "TextOf")
		}
	}
}

// What is written into a name, and behind it, is found neither in the tongue nor in other names, not even in those it is made of.
func TestNamesAreNew(t *testing.T) {
	for _, given := range namedTongues() {
		for _, n := range []int{1, 2, 3, 5, 10, 15, 21, 99, 234, 1000, 12000, 21021, 99999} {
			g := guardTongue(given)
			first, _ := impl.NameOf(g.tongue(), n)
			want := slices.Clone(first)
			second, _ := impl.NameOf(g.tongue(), n)
			within, _ := impl.NameOf(g.tongue(), max(n/10, 1))
			wantWithin := slices.Clone(within)
			text := impl.TextOf(g.tongue(), n)
			scribble(first, otherWord)
			g.check(t, "NameOf")
			if !slices.Equal(second, want) || !slices.Equal(within, wantWithin) {
				t.Fatalf("%v, %d: names share memory: %q, %q", given, n, second, within)
			}
			if again, _ := impl.NameOf(g.tongue(), n); !slices.Equal(again, want) || impl.TextOf(g.tongue(), n) != text {
				t.Fatalf("%v, %d: named again %q", given, n, again)
			}
			scribbleTongue(g.tongue())
			if !slices.Equal(second, want) || strings.Join(want, " ") != text {
				t.Fatalf("%v, %d: a name shares memory with the tongue: %q", given, n, second)
			}
		}
	}
}

// An answer depends on the arguments alone, whatever was asked before: of equal words, other tongues name other numbers.
func TestNamesKeepNoState(t *testing.T) {
	one := impl.Tongue{Units: []string{"a", "b"}, Bases: []int{1, 3}, Names: []string{"c"}}
	two := impl.Tongue{Units: []string{"c"}, Bases: []int{1, 2, 3}, Names: []string{"b", "a"}}
	for range 3 {
		checkName(t, one, 7, "b c a")
		checkName(t, two, 7, "b a c")
		checkName(t, impl.Tongue{}, 7, "")
		checkName(t, one, 9, "")
		checkName(t, two, 8, "b a b")
		checkName(t, two, 9, "")
		if impl.GreatestNamed(one) != 8 || impl.GreatestNamed(two) != 8 || impl.GreatestNamed(impl.Tongue{}) != -1 {
			t.Fatal(impl.GreatestNamed(one), impl.GreatestNamed(two))
		}
	}
}
