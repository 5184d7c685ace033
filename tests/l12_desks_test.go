package tests

import (
	"math"
	"regexp"
	"slices"
	"strconv"
	"strings"
	"testing"

	"loop.example/numberwords/impl"
)

// deskOf is a desk of a tongue, a number and those of before.
func deskOf(tongue impl.Tongue, now int, past ...int) impl.Desk {
	return impl.Desk{Speech: tongue, Now: now, Past: past}
}

func sameDesk(d impl.Desk, e impl.Desk) bool {
	return sameTongue(d.Speech, e.Speech) && d.Now == e.Now && slices.Equal(d.Past, e.Past)
}

func copyOfDesk(d impl.Desk) impl.Desk {
	return impl.Desk{Speech: copyOf(d.Speech), Now: d.Now, Past: slices.Clone(d.Past)}
}

// deed is a deed of a kind with a number.
func deed(kind int, n int) impl.Deed {
	return impl.Deed{Kind: kind, N: n}
}

// to, more, less, letters and back are deeds of each kind, which is told by its number here.
func to(n int) impl.Deed   { return deed(0, n) }
func more(n int) impl.Deed { return deed(1, n) }
func less(n int) impl.Deed { return deed(2, n) }
func letters() impl.Deed   { return deed(3, 0) }
func back() impl.Deed      { return deed(4, 0) }

// rowTo are the numbers from 1 up to one.
func rowTo(most int) []int {
	return digitsTo(most)
}

// linesOf takes lines apart that are told in one text.
func linesOf(s string) []string {
	return strings.Split(s, "|")
}

// dashes is a tongue in which two leads to a number without a name.
func dashes() impl.Tongue {
	return unitsAlone("dot", "dash", "no")
}

// asking is a tongue whose words are those of deeds, of questions and of answers.
func asking() impl.Tongue {
	return impl.Tongue{
		Units: []string{"to", "more", "less", "letters", "back", "number", "name", "words", "count"},
		Bases: []int{1, 10, 100, 1000, 10000},
		Names: []string{"read", "spoken", "what", "none"},
	}
}

// joining are tongues with one of the words by which a desk turns names or takes away, as a unit and as the name of a base.
func joining() []impl.Tongue {
	return []impl.Tongue{
		withWord(tens(), 0, "and"), withWord(tens(), 8, "and"), withWord(tens(), 9, "and"), withWord(tens(), 11, "and"),
		withWord(tens(), 0, "from"), withWord(tens(), 8, "from"), withWord(tens(), 9, "from"), withWord(tens(), 11, "from"),
	}
}

// deskTongues are tongues in which all numbers or only some have names, of one base and of more, and whose names may be turned or not.
func deskTongues() []impl.Tongue {
	return append(joining(),
		tens(), hundreds(), pair(), noughts(), cuatro(), gapped(), wordy(), dashes(), asking(), sacks(), fourRings(), longRing(), lateTrue(), unitsAlone("a"), unitsAlone(numbered("q", 20)...),
		tongueBy(1), tongueBy(9, 25), tongueBy(9, 20, 25), tongueBy(20, 22, 23, 24), tongueBy(9, 100, 1000, 10000), tongueBy(4, 999997, 999998, 999999), tongueBy(19, 340),
	)
}

// speaker is all that is told of the numbers of a tongue, from tables that are made without taking a number apart.
type speaker struct {
	tongue  impl.Tongue
	texts   []string
	numbers map[string]int
	letters []int
	turned  []string
	shorter []string
}

func speakerOf(t *testing.T, tongue impl.Tongue) speaker {
	t.Helper()
	s := speaker{tongue: tongue, texts: textsBy(tongue), numbers: numbersBy(t, tongue), letters: lettersBy(tongue, 99999), turned: make([]string, 100000), shorter: make([]string, 100000)}
	words := slices.Concat(tongue.Units, tongue.Names)
	if dividing(tongue.Bases) && !slices.Contains(words, "and") {
		s.turned = turnedBy(tongue, "and")
	}
	if !slices.Contains(words, "from") {
		s.shorter = shorterBy(s.texts, takenBy(tongue, s.texts, "from", 3))
	}
	return s
}

func (s speaker) named(n int) bool {
	return n >= 1 && n <= 99999 && s.texts[n] != ""
}

// namedOnes are some of the numbers that have names: the first and the last ones, and some between.
func (s speaker) namedOnes() []int {
	list := []int{}
	for n := 1; n <= 99999; n++ {
		if s.named(n) {
			list = append(list, n)
		}
	}
	few := []int{}
	for i := range list {
		if i < 12 || i >= len(list)-2 || i%(1+len(list)/7) == 0 {
			few = append(few, list[i])
		}
	}
	return few
}

// after tells the desk after a deed, and whether it can be done.
func (s speaker) after(d impl.Desk, a impl.Deed) (impl.Desk, bool) {
	e := copyOfDesk(d)
	if a.Kind == 4 && a.N == 0 && len(d.Past) > 0 {
		e.Now, e.Past = d.Past[len(d.Past)-1], e.Past[:len(d.Past)-1]
		return e, true
	}
	if a.Kind >= 0 && a.Kind <= 2 && a.N >= 1 && a.N <= 99999 {
		e.Now = []int{a.N, d.Now + a.N, d.Now - a.N}[a.Kind]
	}
	if a.Kind == 3 && a.N == 0 {
		e.Now = s.letters[d.Now]
	}
	if e.Now == d.Now || !s.named(e.Now) {
		return copyOfDesk(d), false
	}
	e.Past = append(e.Past, d.Now)
	for len(e.Past) > 8 {
		e.Past = e.Past[1:]
	}
	return e, true
}

// afterAll tells the desk after deeds, and how many were done.
func (s speaker) afterAll(d impl.Desk, deeds []impl.Deed) (impl.Desk, int) {
	done := 0
	for _, a := range deeds {
		e, ok := s.after(d, a)
		if ok {
			done++
		}
		d = e
	}
	return d, done
}

// answer tells what is answered to a question of a number.
func (s speaker) answer(n int, line string) string {
	asked := map[string]string{
		"number": strconv.Itoa(n), "name": s.texts[n], "words": strconv.Itoa(wordsIn(s.texts[n])), "count": strconv.Itoa(s.letters[n]),
		"ring": s.ring(n), "turned": s.turned[n], "away": s.shorter[n],
	}
	answer, ok := asked[line]
	if text, found := strings.CutPrefix(line, "read "); found && text != "" {
		if m := readAs(s.numbers, text); m != -1 {
			answer = strconv.Itoa(m)
		}
		ok = true
	}
	if row, found := strings.CutPrefix(line, "spoken "); found && row != "" {
		answer, ok = s.spoken(row), true
	}
	if !ok {
		return "what"
	}
	if answer == "" {
		return "none"
	}
	return answer
}

func (s speaker) ring(n int) string {
	texts := []string{}
	_, ring := walkBy(s.letters, n)
	for _, m := range ring {
		texts = append(texts, strconv.Itoa(m))
	}
	return strings.Join(texts, ",")
}

func (s speaker) spoken(row string) string {
	texts := []string{}
	if !isRow(row) {
		return ""
	}
	for _, run := range runsBy(row) {
		if !s.named(run.Times) || !s.named(run.Digit) {
			return ""
		}
		texts = append(texts, s.texts[run.Times]+" "+s.texts[run.Digit])
	}
	return strings.Join(texts, ",")
}

// line tells the desk after a line, and the answer.
func (s speaker) line(d impl.Desk, line string) (impl.Desk, string) {
	a, ok := deedBy(line)
	if !ok {
		return d, s.answer(d.Now, line)
	}
	d, done := s.after(d, a)
	if !done {
		return d, "not"
	}
	return d, "ok"
}

// lines tells the desk after lines, and the answers.
func (s speaker) lines(d impl.Desk, lines []string) (impl.Desk, []string) {
	answers := []string{}
	for _, line := range lines {
		after, answer := s.line(d, line)
		d, answers = after, append(answers, answer)
	}
	return d, answers
}

// deedPattern is what the text of a deed looks like.
const deedPattern = `(?:(to|more|less) (0|[1-9][0-9]{0,5})|(letters|back))`

var (
	deedAlone    = regexp.MustCompile(`\A` + deedPattern + `\z`)
	deedsInFront = regexp.MustCompile(`\A(?:` + deedPattern + `\n)*`)
)

// deedBy tells by a pattern which deed a text is, if it is one.
func deedBy(text string) (impl.Deed, bool) {
	parts := deedAlone.FindStringSubmatch(text)
	if parts == nil {
		return impl.Deed{}, false
	}
	n, _ := strconv.Atoi(parts[2])
	return deed(slices.Index([]string{"to", "more", "less", "letters", "back"}, parts[1]+parts[3]), n), true
}

// journalBy tells by a pattern which deeds stand in front of a text, and how many bytes they have.
func journalBy(text string) ([]impl.Deed, int) {
	front := deedsInFront.FindString(text)
	deeds := []impl.Deed{}
	for line := range strings.SplitSeq(front, "\n") {
		if a, ok := deedBy(line); ok {
			deeds = append(deeds, a)
		}
	}
	return deeds, len(front)
}

// textBy tells the text of a deed, "" for none, from a table.
func textBy(a impl.Deed) string {
	if a.N < 0 || a.N > 999999 {
		return ""
	}
	n := strconv.Itoa(a.N)
	text := map[int]string{0: "to " + n, 1: "more " + n, 2: "less " + n, 3: "letters", 4: "back"}[a.Kind]
	if a.N != 0 && !strings.HasSuffix(text, n) {
		return ""
	}
	return text
}

// goodDesks are desks of all kinds of tongues, with no numbers of before, with some, and with as many as there may be.
func goodDesks() []impl.Desk {
	return []impl.Desk{
		deskOf(tens(), 1), deskOf(tens(), 234), deskOf(tens(), 99999), deskOf(tens(), 4, 4), deskOf(tens(), 4, 4, 4, 4), deskOf(tens(), 5, 99999, 1, 99999), deskOf(tens(), 999, 1000, 1001),
		deskOf(tens(), 9, 1, 2, 3, 4, 5, 6, 7, 8), deskOf(tens(), 1, 8, 7, 6, 5, 4, 3, 2), deskOf(tens(), 1, 1, 1, 1, 1, 1, 1, 1, 1),
		deskOf(noughts(), 99, 1000, 1), deskOf(noughts(), 1000), deskOf(cuatro(), 4, 6, 4), deskOf(gapped(), 3, 5, 1, 2), deskOf(gapped(), 8), deskOf(wordy(), 255, 41), deskOf(wordy(), 65535),
		deskOf(dashes(), 1), deskOf(dashes(), 2, 3), deskOf(dashes(), 3, 1, 2, 3, 1, 2, 3, 1, 2), deskOf(asking(), 11, 100), deskOf(asking(), 1000, 99999),
		deskOf(unitsAlone("a"), 1), deskOf(unitsAlone("a"), 1, 1), deskOf(unitsAlone(numbered("q", 20)...), 20, 19, 1), deskOf(sacks(), 49, 11), deskOf(pair(), 99, 98), deskOf(hundreds(), 999),
		deskOf(tongueBy(20, 22, 23, 24), 21), deskOf(tongueBy(9, 100, 1000, 10000), 99999, 1), deskOf(tongueBy(9, 25), 24, 25), deskOf(tongueBy(4, 999997, 999998, 999999), 24, 5),
	}
}

// wrongDesks are no desks, each for a reason of its own.
func wrongDesks() []impl.Desk {
	list := []impl.Desk{
		{}, {Now: 1}, {Past: []int{1}}, {Speech: tens()}, deskOf(impl.Tongue{}, 1, 1),
		deskOf(tens(), 9, 1, 2, 3, 4, 5, 6, 7, 8, 9), deskOf(tens(), 1, slices.Repeat([]int{1}, 9)...), deskOf(tens(), 1, slices.Repeat([]int{2}, 10)...), deskOf(tens(), 1, slices.Repeat([]int{2}, 264)...), deskOf(tens(), 1, slices.Repeat([]int{2}, 5000)...),
		deskOf(noughts(), 100), deskOf(noughts(), 999, 1), deskOf(noughts(), 1, 999), deskOf(noughts(), 99, 1, 100, 99), deskOf(noughts(), 99999), deskOf(gapped(), 4), deskOf(gapped(), 5, 9), deskOf(gapped(), 9, 5),
		deskOf(dashes(), 4), deskOf(dashes(), 1, 4), deskOf(unitsAlone("a"), 2), deskOf(unitsAlone("a"), 1, 2), deskOf(wordy(), 65536), deskOf(pair(), 100), deskOf(pair(), 99, 100), deskOf(hundreds(), 99, 10000),
	}
	for _, n := range unnamed() {
		list = append(list, deskOf(tens(), n), deskOf(tens(), n, 1), deskOf(tens(), 1, n), deskOf(wordy(), 1, 1, n))
		for place := range 8 {
			past := rowTo(8)
			past[place] = n
			list = append(list, deskOf(tens(), 9, past...))
		}
	}
	for _, tongue := range wrongTongues() {
		list = append(list, deskOf(tongue, 1), deskOf(tongue, 1, 1), deskOf(tongue, 0), deskOf(tongue, 2, 1))
	}
	return list
}

// someDeeds are deeds that can be done at some desks, and deeds that can be done at none.
func someDeeds() []impl.Deed {
	list := []impl.Deed{letters(), back(), deed(3, 1), deed(3, -1), deed(4, 1), deed(4, -1), deed(3, 4), deed(4, 5), deed(3, math.MaxInt), deed(4, math.MinInt)}
	for _, n := range []int{1, 2, 3, 4, 5, 7, 9, 10, 22, 99, 100, 101, 233, 234, 235, 766, 999, 1000, 9999, 65535, 65536, 99765, 99766, 99998, 99999, 0, -1, -2, -233, -99999, 100000, 100001, 199998, 999999, 1000000, math.MaxInt32, math.MinInt32, math.MaxInt, math.MinInt, math.MaxInt - 233, math.MinInt + 234} {
		list = append(list, to(n), more(n), less(n))
	}
	for _, kind := range []int{-1, -2, -4, 5, 6, 7, 10, 256, 258, 260, math.MaxInt, math.MinInt, math.MinInt32} {
		list = append(list, deed(kind, 0), deed(kind, 1), deed(kind, 5), deed(kind, -1))
	}
	return list
}

// questionLines are all questions, with an answer or none, lines that are none, and deeds.
func questionLines() []string {
	return []string{
		"number", "name", "words", "count", "ring", "turned", "away",
		"read one", "read two hundred three ten four", "read nine ten nine thousand nine hundred nine ten nine", "read one ten", "read two", "read a", "read ua", "read uno", "read dot", "read dash", "read none", "read what to", "read to", "read 1", "read  ", "read  one", "read one ", "read one two", "read one\n", "read \x00", "read \xff", "read read",
		"spoken 1", "spoken 22", "spoken 1112", "spoken 4", "spoken 44", "spoken 999999999", "spoken 123456789", "spoken 3333", "spoken 0", "spoken 10", "spoken  ", "spoken  1", "spoken 1 ", "spoken 1 2", "spoken one", "spoken 1111111111", "spoken \xff",
		"spoken " + strings.Repeat("12", 30), "spoken " + strings.Repeat("12", 30) + "1", "read " + strings.Repeat("one ", 40) + "one", "read " + strings.Repeat("x", 3000), "spoken " + strings.Repeat("1", 3000),
		"letters", "back", "to 1", "to 2", "to 7", "to 999", "to 99999", "to 100000", "to 999999", "to 0", "more 1", "more 3", "more 0", "more 99999", "less 1", "less 2", "less 233", "less 0", "less 99999", "less 999999",
	}
}

// otherLines are lines that are neither questions nor deeds.
func otherLines() []string {
	return []string{
		"", " ", "  ", "\n", "\t", "\x00", "\xff", "what", "ok", "not", "none", "desk", "0", "1", "234", "one", "two hundred", "and", "from",
		"number ", "name ", "words ", "count ", "ring ", "turned ", "away ", " number", " name", "number\n", "name\n", "Number", "NAME", "numbers", "numbe", "n", "number 1", "name one", "name 1", "words 2", "count 3", "ring 4", "turned and", "away from", "away 3", "number name", "number\x00", "names",
		"read", "read ", "spoken", "spoken ", " read one", " spoken 1", "reads one", "readone", "read\tone", "read\none", "spoken1", "spoken\t1", "Read one", "READ one", "Spoken 1", "spoke 1", "speak 1", "rea d one", "read,one", "spoken,1", "\nread one", "what one", "name read one",
		"to", "to ", "to x", "to  1", " to 1", "to 1 ", "to 01", "to +1", "to -1", "to -0", "to 1.0", "to 1e3", "to 0x1", "to 1_000", "to 1000000", "to 9999999", "to 18446744073709551617", "to 4294967297", "to one", "to 1 2", "to 1\n", "to\n1", "to\t1", "to1", "To 1", "TO 1", "too 1", "t 1", "to to 1", "to 00", "to 000001",
		"more", "more ", "more x", "more 01", "more -1", "more 1000000", "more +1", "more 1 ", "more  1", "less", "less ", "less x", "less 01", "less -1", "less 1000000", "less 1 ", "less  1",
		"letters ", "letters 0", "letters 1", " letters", "Letters", "letter", "letters\n", "back ", "back 0", "back 1", " back", "Back", "backs", "back\n", "back back", "letters letters",
		"to \xef\xbc\x91", "to \xd9\xa1", "to 1\x00", "to \x001", strings.Repeat("number", 20000), "to " + strings.Repeat("0", 100000), "to " + strings.Repeat("9", 100000), "to " + strings.Repeat(" ", 100000), strings.Repeat(" ", 100000),
	}
}

// checkDesk fails unless this is a desk, or is none; without any numbers of before a desk is one.
func checkDesk(t *testing.T, d impl.Desk, want bool) {
	t.Helper()
	if got := impl.DeskOk(d); got != want {
		t.Fatalf("%v: DeskOk %v, not %v", d, got, want)
	}
	if want && !impl.DeskOk(deskOf(d.Speech, d.Now)) {
		t.Fatalf("%v: no desk without any numbers of before", d)
	}
}

// checkDone fails unless a deed leads from a desk to this one, from which one goes back to it, as far as numbers of before are kept.
func checkDone(t *testing.T, d impl.Desk, a impl.Deed, want impl.Desk) {
	t.Helper()
	e, ok := impl.DeskDo(d, a)
	if !ok || !sameDesk(e, want) {
		t.Fatalf("%v, %v: DeskDo %v, %v, not %v", d, a, e, ok, want)
	}
	checkDesk(t, e, true)
	if !sameTongue(e.Speech, d.Speech) {
		t.Fatalf("%v, %v: DeskDo changes the tongue to %v", d, a, e.Speech)
	}
	if a.Kind == 4 {
		return
	}
	before := copyOfDesk(d)
	if len(d.Past) == 8 {
		before.Past = before.Past[1:]
	}
	if undone, ok := impl.DeskDo(e, back()); !ok || !sameDesk(undone, before) {
		t.Fatalf("%v, %v: undone %v, %v, not %v", d, a, undone, ok, before)
	}
	if letters := impl.LettersOf(d.Speech, d.Now); a.Kind == 3 && e.Now != letters {
		t.Fatalf("%v, %v: the number is %d, not that of letters, %d", d, a, e.Now, letters)
	}
}

// checkNotDone fails unless a deed changes nothing at a desk.
func checkNotDone(t *testing.T, d impl.Desk, a impl.Deed) {
	t.Helper()
	if e, ok := impl.DeskDo(d, a); ok || !sameDesk(e, d) {
		t.Fatalf("%v, %v: DeskDo %v, %v, not the desk", d, a, e, ok)
	}
}

// checkDeskRun fails unless deeds lead from a desk to this one, and so many of them are done: at once, in two parts, and said line by line.
func checkDeskRun(t *testing.T, d impl.Desk, deeds []impl.Deed, want impl.Desk, many int) {
	t.Helper()
	e, done := impl.DeskRun(d, deeds)
	if done != many || !sameDesk(e, want) {
		t.Fatalf("%v, %v: DeskRun %v, %d, not %v, %d", d, deeds, e, done, want, many)
	}
	checkDesk(t, e, true)
	for cut := range len(deeds) + 1 {
		middle, first := impl.DeskRun(d, deeds[:cut])
		end, second := impl.DeskRun(middle, deeds[cut:])
		if first+second != many || !sameDesk(end, want) {
			t.Fatalf("%v, %v and %v: DeskRun %v, %d and %d, not %v, %d", d, deeds[:cut], deeds[cut:], end, first, second, want, many)
		}
	}
	journal := impl.JournalText(deeds)
	if journal == "" {
		return
	}
	lines := strings.Split(strings.TrimSuffix(journal, "\n"), "\n")
	said, answers := impl.DeskSay(d, lines)
	oks := 0
	for _, answer := range answers {
		if answer == "ok" {
			oks++
		}
	}
	if !sameDesk(said, want) || oks != many {
		t.Fatalf("%v, %q: DeskSay %v, %q, but DeskRun %v, %d", d, lines, said, answers, want, many)
	}
}

// checkDeed fails unless a deed has this text, or none if that is "", and is read from it, but not from it with a space.
func checkDeed(t *testing.T, a impl.Deed, text string) {
	t.Helper()
	if got := impl.DeedText(a); got != text {
		t.Fatalf("%v: DeedText %q, not %q", a, got, text)
	}
	if text == "" {
		return
	}
	if b, ok := impl.ReadDeed(text); !ok || b != a {
		t.Fatalf("%q: ReadDeed %v, %v, not %v", text, b, ok, a)
	}
	checkNoDeed(t, text+" ")
}

// checkNoDeed fails if a deed is read from a text.
func checkNoDeed(t *testing.T, text string) {
	t.Helper()
	if a, ok := impl.ReadDeed(text); ok || a != (impl.Deed{}) {
		t.Fatalf("%.300q: ReadDeed %v, %v", text, a, ok)
	}
}

// checkReadDeed fails unless a text is read as the pattern tells.
func checkReadDeed(t *testing.T, text string) bool {
	t.Helper()
	want, found := deedBy(text)
	if !found {
		checkNoDeed(t, text)
		return false
	}
	checkDeed(t, want, text)
	return true
}

// checkJournal fails unless these deeds are read from a text, up to so many bytes; the text of them is what was read.
func checkJournal(t *testing.T, text string, want []impl.Deed, bytes int) {
	t.Helper()
	deeds, read := impl.ReadJournal(text)
	if read != bytes || !slices.Equal(deeds, want) {
		t.Fatalf("%.300q: ReadJournal %v, %d, not %v, %d", text, deeds, read, want, bytes)
	}
	if again := impl.JournalText(deeds); again != text[:bytes] {
		t.Fatalf("%.300q: ReadJournal %v, %d, but JournalText %q", text, deeds, read, again)
	}
}

// checkCuts fails unless of each beginning of a text the deeds are read whose lines are all there.
func checkCuts(t *testing.T, text string) {
	t.Helper()
	deeds, bytes := impl.ReadJournal(text)
	for cut := range len(text) + 1 {
		lines, whole := 0, 0
		for lines < len(deeds) && whole+len(impl.DeedText(deeds[lines]))+1 <= cut {
			whole += len(impl.DeedText(deeds[lines])) + 1
			lines++
		}
		checkJournal(t, text[:cut], deeds[:lines], whole)
	}
	checkJournal(t, text, deeds, bytes)
}

// checkDeskLine fails unless a line leads from a desk to this one, with this answer.
func checkDeskLine(t *testing.T, d impl.Desk, line string, want impl.Desk, answer string) {
	t.Helper()
	e, got := impl.DeskLine(d, line)
	if got != answer || !sameDesk(e, want) {
		t.Fatalf("%v, %.300q: DeskLine %v, %q, not %v, %q", d, line, e, got, want, answer)
	}
	checkDesk(t, e, true)
	if answer == "" || answer != "ok" && !sameDesk(e, d) {
		t.Fatalf("%v, %.300q: DeskLine %v, %q", d, line, e, got)
	}
}

// checkAnswer fails unless a line is answered so and leaves the desk as it is.
func checkAnswer(t *testing.T, d impl.Desk, line string, answer string) {
	t.Helper()
	checkDeskLine(t, d, line, d, answer)
}

// checkDeskSay fails unless lines lead from a desk to this one, with these answers, at once and in two parts; behind them the name is read as the number.
func checkDeskSay(t *testing.T, d impl.Desk, lines []string, want impl.Desk, answers []string) {
	t.Helper()
	e, got := impl.DeskSay(d, lines)
	if !sameDesk(e, want) || !slices.Equal(got, answers) || slices.Contains(got, "") {
		t.Fatalf("%v, %q: DeskSay %v, %q, not %v, %q", d, lines, e, got, want, answers)
	}
	for cut := range len(lines) + 1 {
		middle, first := impl.DeskSay(d, lines[:cut])
		end, second := impl.DeskSay(middle, lines[cut:])
		if !sameDesk(end, want) || !slices.Equal(slices.Concat(first, second), answers) {
			t.Fatalf("%v, %q and %q: DeskSay %v, %q and %q, not %v, %q", d, lines[:cut], lines[cut:], end, first, second, want, answers)
		}
	}
	_, asked := impl.DeskSay(e, []string{"number", "name"})
	if _, read := impl.DeskSay(e, []string{"read " + asked[1]}); len(read) != 1 || read[0] != asked[0] || asked[0] != strconv.Itoa(want.Now) {
		t.Fatalf("%v, %q: the number is %q, but its name %q is read as %q", d, lines, asked[0], asked[1], read)
	}
}

// checkNothing fails unless nothing comes of something that is no desk.
func checkNothing(t *testing.T, what string, d impl.Desk, e impl.Desk) {
	t.Helper()
	if !sameDesk(e, impl.Desk{}) {
		t.Fatalf("%v: %s %v, which is something", d, what, e)
	}
}

func TestConstantsOfDesks(t *testing.T) {
	if impl.DkTo != 0 || impl.DkMore != 1 || impl.DkLess != 2 || impl.DkLetters != 3 || impl.DkBack != 4 || impl.MaxPast != 8 || impl.MaxLines != 40 {
		t.Fatal(impl.DkTo, impl.DkMore, impl.DkLess, impl.DkLetters, impl.DkBack, impl.MaxPast, impl.MaxLines)
	}
}

// Promise 60: desks, with as many numbers of before as there may be, and what is none.
func TestDesks(t *testing.T) {
	for _, d := range goodDesks() {
		checkDesk(t, d, true)
		for many := range 12 {
			checkDesk(t, deskOf(d.Speech, d.Now, slices.Repeat([]int{d.Now}, many)...), many <= 8)
		}
	}
	for _, d := range wrongDesks() {
		checkDesk(t, d, false)
	}
}

// Promise 60: a number without a name, now and at each place of before, against names that are put together from the least on.
func TestDesksOfNumbersWithNames(t *testing.T) {
	for _, tongue := range append(deskTongues(), goodTongues()...) {
		texts := textsBy(tongue)
		for n := 0; n <= 99999; n += 1 + n/300 {
			named := texts[n] != ""
			checkDesk(t, deskOf(tongue, n), named)
			checkDesk(t, deskOf(tongue, 1, n), named)
			past := slices.Repeat([]int{1}, 1+n%8)
			past[n/8%len(past)] = n
			checkDesk(t, deskOf(tongue, 1, past...), named)
		}
	}
}

// Promise 61: the number, without any of before, in all tongues; numbers without names.
func TestNewDesks(t *testing.T) {
	for _, tongue := range append(deskTongues(), goodTongues()...) {
		texts := textsBy(tongue)
		for n := 1; n <= 99999; n += 1 + n/200 {
			d, ok := impl.DeskNew(tongue, n)
			if texts[n] == "" {
				if ok {
					t.Fatalf("%v, %d: DeskNew %v, %v", tongue, n, d, ok)
				}
				checkNothing(t, "DeskNew", deskOf(tongue, n), d)
				continue
			}
			if !ok || !sameDesk(d, deskOf(tongue, n)) {
				t.Fatalf("%v, %d: DeskNew %v, %v", tongue, n, d, ok)
			}
			checkDesk(t, d, true)
		}
	}
}

// Promise 61: numbers outside, and tongues that are none.
func TestNoNewDesks(t *testing.T) {
	check := func(tongue impl.Tongue, n int) {
		t.Helper()
		d, ok := impl.DeskNew(tongue, n)
		if ok {
			t.Fatalf("%v, %d: DeskNew %v", tongue, n, d)
		}
		checkNothing(t, "DeskNew", deskOf(tongue, n), d)
	}
	for _, tongue := range deskTongues() {
		for _, n := range unnamed() {
			check(tongue, n)
		}
	}
	for _, tongue := range wrongTongues() {
		for _, n := range append(unnamed(), 1, 2, 10, 234, 99999) {
			check(tongue, n)
		}
	}
	for _, n := range []int{100, 101, 999, 1100, 99999} {
		check(noughts(), n)
	}
	check(dashes(), 4)
	check(gapped(), 9)
	check(pair(), 100)
}

// Promise 56: deeds done by hand.
func TestDeedsDone(t *testing.T) {
	d := deskOf(tens(), 234)
	for _, c := range []struct {
		a   impl.Deed
		now int
	}{
		{to(1), 1}, {to(5), 5}, {to(233), 233}, {to(235), 235}, {to(1000), 1000}, {to(99999), 99999}, {more(1), 235}, {more(234), 468}, {more(766), 1000}, {more(99765), 99999}, {less(1), 233}, {less(34), 200}, {less(233), 1}, {letters(), 22},
	} {
		checkDone(t, d, c.a, deskOf(tens(), c.now, 234))
		checkDone(t, deskOf(tens(), 234, 7, 8), c.a, deskOf(tens(), c.now, 7, 8, 234))
		checkDone(t, deskOf(tens(), 234, 1, 2, 3, 4, 5, 6, 7), c.a, deskOf(tens(), c.now, 1, 2, 3, 4, 5, 6, 7, 234))
		checkDone(t, deskOf(tens(), 234, 1, 2, 3, 4, 5, 6, 7, 8), c.a, deskOf(tens(), c.now, 2, 3, 4, 5, 6, 7, 8, 234))
	}
	checkDone(t, deskOf(tens(), 5), letters(), deskOf(tens(), 4, 5))
	checkDone(t, deskOf(tens(), 3, 3), letters(), deskOf(tens(), 5, 3, 3))
	checkDone(t, deskOf(cuatro(), 4), letters(), deskOf(cuatro(), 6, 4))
	checkDone(t, deskOf(tens(), 99999), less(99998), deskOf(tens(), 1, 99999))
	checkDone(t, deskOf(tens(), 1), more(99998), deskOf(tens(), 99999, 1))
	checkDone(t, deskOf(tens(), 1), to(99999), deskOf(tens(), 99999, 1))
	checkDone(t, d, deed(impl.DkTo, 7), deskOf(tens(), 7, 234))
	checkDone(t, d, deed(impl.DkMore, 7), deskOf(tens(), 241, 234))
	checkDone(t, d, deed(impl.DkLess, 7), deskOf(tens(), 227, 234))
	checkDone(t, d, deed(impl.DkLetters, 0), deskOf(tens(), 22, 234))
	checkDone(t, deskOf(tens(), 234, 8), deed(impl.DkBack, 0), deskOf(tens(), 8))
}

// Promise 56: numbers of before put back by hand; one that is the same number is put back as well.
func TestNumbersPutBack(t *testing.T) {
	checkDone(t, deskOf(tens(), 234, 7), back(), deskOf(tens(), 7))
	checkDone(t, deskOf(tens(), 234, 7, 8), back(), deskOf(tens(), 8, 7))
	checkDone(t, deskOf(tens(), 9, 1, 2, 3, 4, 5, 6, 7, 8), back(), deskOf(tens(), 8, 1, 2, 3, 4, 5, 6, 7))
	checkDone(t, deskOf(tens(), 7, 7), back(), deskOf(tens(), 7))
	checkDone(t, deskOf(tens(), 7, 1, 7, 7), back(), deskOf(tens(), 7, 1, 7))
	checkDone(t, deskOf(dashes(), 1, 2), back(), deskOf(dashes(), 2))
	for _, d := range goodDesks() {
		empty := deskOf(d.Speech, d.Now)
		checkNotDone(t, empty, back())
		for _, n := range []int{1, -1, 2, 4, 5, 234, 99999, math.MaxInt, math.MinInt} {
			checkNotDone(t, d, deed(4, n))
			checkNotDone(t, empty, deed(4, n))
		}
	}
}

// Promise 56: of more deeds than MaxPast just the last MaxPast ones are undone.
func TestNoMoreThanMaxPastUndone(t *testing.T) {
	d := deskOf(tens(), 1)
	for n := 2; n <= 20; n++ {
		want := deskOf(tens(), n, rowTo(n - 1)[max(0, n-9):]...)
		checkDone(t, d, more(1), want)
		d = want
	}
	for n := 19; n >= 12; n-- {
		want := deskOf(tens(), n, rowTo(n - 1)[11:]...)
		checkDone(t, d, back(), want)
		d = want
	}
	checkNotDone(t, d, back())
}

// Promise 56: what cannot be done: numbers that stay the same, without names, of 0 and less, and too great ones; N outside; other kinds.
func TestDeedsNotDone(t *testing.T) {
	for _, d := range []impl.Desk{deskOf(tens(), 234), deskOf(tens(), 234, 5), deskOf(tens(), 234, 1, 2, 3, 4, 5, 6, 7, 8)} {
		for _, a := range []impl.Deed{to(234), to(0), to(-1), to(100000), to(-234), more(0), more(-1), more(-233), more(99766), more(99999), more(100000), less(0), less(-1), less(-5), less(234), less(235), less(99999), less(100000), less(-99999)} {
			checkNotDone(t, d, a)
		}
		for _, n := range append(unnamed(), math.MaxInt-233, math.MaxInt-234, math.MinInt+233, math.MinInt+234, math.MinInt+235, -99765) {
			for kind := range 3 {
				checkNotDone(t, d, deed(kind, n))
			}
		}
		for _, n := range []int{1, -1, 3, 22, 234, 99999, math.MaxInt, math.MinInt} {
			checkNotDone(t, d, deed(3, n))
			checkNotDone(t, d, deed(4, n))
		}
		for _, kind := range []int{-1, -2, -3, -4, 5, 6, 8, 256, 259, 260, math.MaxInt, math.MinInt, math.MaxInt32} {
			for _, n := range []int{0, 1, 5, 22, 234, -1, 99999} {
				checkNotDone(t, d, deed(kind, n))
			}
		}
	}
	// Four has four letters.
	checkNotDone(t, deskOf(tens(), 4), letters())
	checkNotDone(t, deskOf(tens(), 4, 5), letters())
	checkNotDone(t, deskOf(cuatro(), 5), letters())
	// Dash has four letters, but 4 has no name.
	checkNotDone(t, deskOf(dashes(), 2), letters())
	checkNotDone(t, deskOf(dashes(), 2), more(2))
	checkNotDone(t, deskOf(dashes(), 2), to(4))
	checkNotDone(t, deskOf(unitsAlone("a"), 1), letters())
	checkNotDone(t, deskOf(unitsAlone("ab"), 1), letters())
	for _, a := range []impl.Deed{to(100), to(999), to(1100), more(1), more(900), to(99999)} {
		checkNotDone(t, deskOf(noughts(), 99, 1), a)
	}
	for _, n := range []int{1, 100, 900} {
		checkNotDone(t, deskOf(noughts(), 1000, 1), less(n))
	}
	checkDone(t, deskOf(noughts(), 1000, 1), less(901), deskOf(noughts(), 99, 1, 1000))
	checkDone(t, deskOf(noughts(), 99, 1), more(901), deskOf(noughts(), 1000, 1, 99))
}

// Promise 56: all deeds of these tests at all desks of numbers that have names, against a speaker who takes no number apart.
func TestDeedsInAllTongues(t *testing.T) {
	kinds := map[bool]int{}
	for _, tongue := range deskTongues() {
		s := speakerOf(t, tongue)
		named := s.namedOnes()
		for i, n := range named {
			for _, past := range [][]int{nil, {named[(i+1)%len(named)]}, {n}, slices.Repeat([]int{n, named[0]}, 4), slices.Repeat([]int{named[0], n}, 4)[1:]} {
				d := deskOf(tongue, n, past...)
				for _, a := range someDeeds() {
					want, ok := s.after(d, a)
					kinds[ok]++
					if ok {
						checkDone(t, d, a, want)
					} else {
						checkNotDone(t, d, a)
					}
				}
			}
		}
	}
	if kinds[true] < 5000 || kinds[false] < 5000 {
		t.Fatalf("of one kind there are too few deeds: %v", kinds)
	}
}

// Promise 56: all numbers as N, to and from some desks.
func TestDeedsOfAllNumbers(t *testing.T) {
	for _, d := range []impl.Desk{deskOf(tens(), 234), deskOf(noughts(), 1000, 5), deskOf(gapped(), 7), deskOf(wordy(), 300)} {
		s := speakerOf(t, d.Speech)
		for n := -300; n <= 100300; n += 1 + max(n, 0)/400 {
			for kind := range 3 {
				want, ok := s.after(d, deed(kind, n))
				if ok {
					checkDone(t, d, deed(kind, n), want)
				} else {
					checkNotDone(t, d, deed(kind, n))
				}
			}
		}
	}
}

// Promise 57: deeds done one after the other by hand, those that cannot be done left out and not counted.
func TestDeskRun(t *testing.T) {
	d := deskOf(tens(), 234)
	checkDeskRun(t, d, nil, d, 0)
	checkDeskRun(t, d, []impl.Deed{}, d, 0)
	checkDeskRun(t, deskOf(tens(), 5, 4, 3), nil, deskOf(tens(), 5, 4, 3), 0)
	checkDeskRun(t, d, []impl.Deed{letters()}, deskOf(tens(), 22, 234), 1)
	checkDeskRun(t, d, []impl.Deed{letters(), letters(), letters(), letters(), letters()}, deskOf(tens(), 4, 234, 22, 9), 3)
	checkDeskRun(t, deskOf(tens(), 22, 234), []impl.Deed{more(78), to(100), to(5), back(), less(1)}, deskOf(tens(), 99, 234, 22, 100), 4)
	checkDeskRun(t, d, []impl.Deed{back(), back(), less(234), to(0), deed(9, 9), more(-1), deed(3, 3)}, d, 0)
	checkDeskRun(t, d, []impl.Deed{back(), to(1), back(), back(), deed(-1, 0), to(2)}, deskOf(tens(), 2, 234), 3)
	checkDeskRun(t, deskOf(noughts(), 99), []impl.Deed{more(1), more(901), less(1), less(901), back(), back()}, deskOf(noughts(), 99), 4)
	checkDeskRun(t, d, []impl.Deed{to(1), to(2), to(3), to(4), to(5), to(6), to(7), to(8), to(9)}, deskOf(tens(), 9, 1, 2, 3, 4, 5, 6, 7, 8), 9)
	checkDeskRun(t, d, append(slices.Repeat([]impl.Deed{more(1)}, 12), slices.Repeat([]impl.Deed{back()}, 12)...), deskOf(tens(), 238), 20)
}

// Promise 57: MaxLines deeds, one more, and far more, whether they can be done or not.
func TestDeskRunOfMaxLines(t *testing.T) {
	d := deskOf(tens(), 1)
	for _, many := range []int{38, 39, 40} {
		checkDeskRun(t, d, slices.Repeat([]impl.Deed{more(1)}, many), deskOf(tens(), many+1, rowTo(many)[many-8:]...), many)
		checkDeskRun(t, d, slices.Repeat([]impl.Deed{less(1)}, many), d, 0)
		checkDeskRun(t, d, slices.Repeat([]impl.Deed{to(2), back()}, many)[:many], deskOf(tens(), 1+many%2, rowTo(many%2)...), many)
	}
	for _, many := range []int{41, 42, 80, 296, 5000} {
		for _, a := range []impl.Deed{more(1), less(1), deed(9, 9), to(2), back()} {
			e, done := impl.DeskRun(d, slices.Repeat([]impl.Deed{a}, many))
			checkNothing(t, "DeskRun", d, e)
			if done != 0 {
				t.Fatalf("%d times %v: DeskRun %d", many, a, done)
			}
		}
	}
}

// Promises 57 and 58: all lists of a few deeds, against a speaker who takes no number apart.
func TestDeskRunOfAllLists(t *testing.T) {
	for _, c := range []struct {
		d     impl.Desk
		deeds []impl.Deed
	}{
		{deskOf(tens(), 234), []impl.Deed{to(5), more(766), less(230), letters(), back(), to(0)}},
		{deskOf(tens(), 4, 1, 2, 3, 4, 5, 6, 7), []impl.Deed{to(4), more(1), less(1), letters(), back(), deed(4, 1)}},
		{deskOf(noughts(), 99, 1000), []impl.Deed{more(1), more(901), less(901), letters(), back(), deed(-1, 0)}},
		{deskOf(dashes(), 1), []impl.Deed{to(3), more(1), less(1), letters(), back(), deed(5, 0)}},
		{deskOf(gapped(), 8, 8, 8, 8, 8, 8, 8, 8, 8), []impl.Deed{to(3), more(2), less(1), letters(), back(), more(99999)}},
	} {
		s := speakerOf(t, c.d.Speech)
		listsUpTo(4, c.deeds, func(deeds []impl.Deed) {
			want, many := s.afterAll(c.d, deeds)
			checkDeskRun(t, c.d, deeds, want, many)
		})
	}
}

// Promise 57: long lists of all kinds of deeds, in all tongues.
func TestDeskRunOfLongLists(t *testing.T) {
	seed := uint32(1)
	for _, tongue := range deskTongues() {
		s := speakerOf(t, tongue)
		named := s.namedOnes()
		choice := append(someDeeds(), slices.Repeat([]impl.Deed{letters(), back(), more(1), less(1), more(7), to(named[len(named)-1]), to(named[0])}, 20)...)
		for many := range 41 {
			deeds := make([]impl.Deed, many)
			for i := range deeds {
				seed = seed*1664525 + 1013904223
				deeds[i] = choice[int(seed>>8)%len(choice)]
			}
			d := deskOf(tongue, named[many%len(named)])
			want, done := s.afterAll(d, deeds)
			checkDeskRun(t, d, deeds, want, done)
		}
	}
}

// Promises 62 and 63: texts told by hand.
func TestDeedTexts(t *testing.T) {
	for text, a := range map[string]impl.Deed{
		"to 0": {}, "to 1": to(1), "to 10": to(10), "to 234": to(234), "to 99999": to(99999), "to 100000": to(100000), "to 999999": to(999999),
		"more 0": more(0), "more 12": more(12), "more 999999": more(999999), "less 0": less(0), "less 7": less(7), "less 100": less(100), "less 999999": less(999999), "letters": letters(), "back": back(),
	} {
		checkDeed(t, a, text)
	}
	for kind := range 3 {
		for _, n := range []int{1000000, 1000001, 9999999, -1, -2, -10, -999999, math.MaxInt, math.MinInt, math.MaxInt32, math.MinInt32} {
			checkDeed(t, deed(kind, n), "")
		}
	}
	for kind := 3; kind <= 4; kind++ {
		for _, n := range []int{1, 2, -1, 3, 4, 10, 256, 99999, 999999, 1000000, math.MaxInt, math.MinInt} {
			checkDeed(t, deed(kind, n), "")
		}
	}
	for _, kind := range []int{-1, -2, -5, 5, 6, 8, 256, 257, 259, 260, math.MaxInt, math.MinInt, math.MinInt32} {
		for _, n := range []int{0, 1, -1, 234, 999999, 1000000} {
			checkDeed(t, deed(kind, n), "")
		}
	}
}

// Promises 62 and 63: all numbers with all kinds, against a table.
func TestDeedTextsOfAllNumbers(t *testing.T) {
	for kind := -2; kind <= 7; kind++ {
		for n := -2000; n <= 1002000; n += 1 + max(n, 0)/1500 {
			checkDeed(t, deed(kind, n), textBy(deed(kind, n)))
		}
		for n := 999990; n <= 1000010; n++ {
			checkDeed(t, deed(kind, n), textBy(deed(kind, n)))
		}
	}
}

// Promises 62 and 63: texts of no deed.
func TestNoDeedsRead(t *testing.T) {
	for _, line := range otherLines() {
		checkNoDeed(t, line)
	}
	for _, text := range []string{"number", "name", "read one", "spoken 1", "to 1\nback", "back\n", "to 0 ", "to 0\n", "to  0", "to 00", "to -0", "to 1000000", "letters back", "to more 1", "to 1 back", "back to 1", " ", "to letters", "to 99999999999999999999", "to -99999999999999999999", "to 0.0", "to 0b1", "to 0o1", "to 1,000", "to \xc2\xb9"} {
		checkNoDeed(t, text)
	}
}

// Promises 62 and 63: each text with one byte less, more, or another one, against a pattern.
func TestChangedDeedTexts(t *testing.T) {
	kinds := map[bool]int{}
	for _, text := range []string{"to 0", "to 7", "to 10", "to 234", "to 99999", "to 999999", "more 1", "more 100000", "less 5", "less 909090", "letters", "back"} {
		for place := range len(text) + 1 {
			for b := range 256 {
				kinds[checkReadDeed(t, text[:place]+string([]byte{byte(b)})+text[place:])]++
				if place < len(text) {
					kinds[checkReadDeed(t, text[:place]+string([]byte{byte(b)})+text[place+1:])]++
				}
			}
			if place < len(text) {
				kinds[checkReadDeed(t, text[:place]+text[place+1:])]++
				kinds[checkReadDeed(t, text[:place])]++
				kinds[checkReadDeed(t, text[place:])]++
			}
		}
	}
	if kinds[true] < 100 || kinds[false] < 10000 {
		t.Fatalf("of one kind there are too few texts: %v", kinds)
	}
}

// Promises 62 and 63: all short texts over a few bytes and words, against a pattern.
func TestAllShortDeedTexts(t *testing.T) {
	textsOver("to 01", 6, func(text string) { checkReadDeed(t, text) })
	textsOver("\x00\xff 9-\n", 3, func(text string) {
		for _, word := range []string{"to", "more", "less", "letters", "back", "to ", "more ", "less ", "letters ", "back ", "to 9"} {
			checkReadDeed(t, word+text)
			checkReadDeed(t, text+word)
		}
	})
}

// Promise 64: texts of deeds told by hand, and of one without a text at each place.
func TestJournalTexts(t *testing.T) {
	for text, deeds := range map[string][]impl.Deed{
		"": nil, "to 7\nback\n": {to(7), back()}, "to 0\n": {{}}, "letters\n": {letters()}, "back\nback\nletters\nmore 12\nless 999999\nto 1\nto 1\n": {back(), back(), letters(), more(12), less(999999), to(1), to(1)},
		strings.Repeat("more 1\n", 500): slices.Repeat([]impl.Deed{more(1)}, 500),
	} {
		if got := impl.JournalText(deeds); got != text {
			t.Fatalf("%v: JournalText %q, not %q", deeds, got, text)
		}
		checkJournal(t, text, deeds, len(text))
		checkCuts(t, text)
		if len(deeds) > 50 {
			continue
		}
		for _, none := range []impl.Deed{deed(5, 0), deed(-1, 0), deed(3, 1), deed(4, -1), to(-1), to(1000000), more(1000000), less(math.MinInt)} {
			for place := range len(deeds) + 1 {
				list := slices.Insert(slices.Clone(deeds), place, none)
				if got := impl.JournalText(list); got != "" {
					t.Fatalf("%v: JournalText %q", list, got)
				}
			}
		}
	}
	if got := impl.JournalText([]impl.Deed{}); got != "" {
		t.Fatalf("of no deeds: JournalText %q", got)
	}
}

// Promise 64: all lists of a few deeds, some of them without texts.
func TestJournalsOfAllLists(t *testing.T) {
	listsUpTo(4, []impl.Deed{to(0), to(999999), more(10), less(1), letters(), back(), deed(4, 1), to(-1), deed(5, 0)}, func(deeds []impl.Deed) {
		want := ""
		for _, a := range deeds {
			if textBy(a) == "" {
				want = ""
				break
			}
			want += textBy(a) + "\n"
		}
		if got := impl.JournalText(deeds); got != want {
			t.Fatalf("%v: JournalText %q, not %q", deeds, got, want)
		}
		if want != "" {
			checkJournal(t, want, deeds, len(want))
		}
	})
}

// Promise 58: what is read of texts, told by hand.
func TestReadJournals(t *testing.T) {
	for _, c := range []struct {
		text  string
		deeds []impl.Deed
		bytes int
	}{
		{"", nil, 0}, {"\n", nil, 0}, {"to 7", nil, 0}, {"to 7\n", []impl.Deed{to(7)}, 5}, {"to 7\nback\nless", []impl.Deed{to(7), back()}, 10}, {"to 7\nback\nless 1", []impl.Deed{to(7), back()}, 10},
		{"to 7\nback\nless 1\n", []impl.Deed{to(7), back(), less(1)}, 17}, {"\nto 7\n", nil, 0}, {"to 7\n\nback\n", []impl.Deed{to(7)}, 5}, {"to 7\nback\n\n", []impl.Deed{to(7), back()}, 10}, {"\n\n\n", nil, 0},
		{"x\nto 7\nback\n", nil, 0}, {"to 7\nx\nback\n", []impl.Deed{to(7)}, 5}, {"to 7\nback\nx\n", []impl.Deed{to(7), back()}, 10}, {"to 7\nback\nx", []impl.Deed{to(7), back()}, 10},
		{"to 7\r\nback\r\n", nil, 0}, {"to 7\nback\r\n", []impl.Deed{to(7)}, 5}, {"to 7 \nback\n", nil, 0}, {" to 7\n", nil, 0}, {"to 07\n", nil, 0}, {"to 7\nto 1000000\nback\n", []impl.Deed{to(7)}, 5},
		{"number\nto 7\n", nil, 0}, {"to 7\nname\nback\n", []impl.Deed{to(7)}, 5}, {"letters\nletters", []impl.Deed{letters()}, 8}, {"back\x00\n", nil, 0}, {"back\n\x00", []impl.Deed{back()}, 5}, {"to 0\nmore 0\nless 0\n\xff\n", []impl.Deed{to(0), more(0), less(0)}, 19},
		{"to 7\fback\n", nil, 0}, {"to 7\xe2\x80\xa8back\n", nil, 0}, {strings.Repeat("back\n", 3000) + "bac", slices.Repeat([]impl.Deed{back()}, 3000), 15000}, {"back\n" + strings.Repeat("x", 300000), []impl.Deed{back()}, 5}, {strings.Repeat("\n", 300000), nil, 0},
	} {
		checkJournal(t, c.text, c.deeds, c.bytes)
		if len(c.text) < 100 {
			checkCuts(t, c.text)
		}
	}
}

// Promise 58: texts put together of lines and parts of lines, against a pattern, cut anywhere.
func TestReadJournalsOfPieces(t *testing.T) {
	reads := map[int]int{}
	listsUpTo(4, []string{"to 7\n", "back\n", "letters\n", "more 999999\n", "less", " 12", "\n", "x\n", " "}, func(pieces []string) {
		text := strings.Join(pieces, "")
		deeds, bytes := journalBy(text)
		checkJournal(t, text, deeds, bytes)
		checkCuts(t, text)
		reads[len(deeds)]++
	})
	for many := range 5 {
		if reads[many] == 0 {
			t.Fatalf("no text of %d deeds: %v", many, reads)
		}
	}
}

// Promise 58: a journal that is cut anywhere leads, run and said line by line, to the desk after the deeds that are whole.
func TestCutJournalsLeadToDesksOfBefore(t *testing.T) {
	deeds := []impl.Deed{to(99), more(1), more(901), letters(), back(), less(1), less(901), to(5), to(0), back(), back(), back(), letters(), more(99999), to(7)}
	text := impl.JournalText(deeds)
	for _, d := range []impl.Desk{deskOf(tens(), 234), deskOf(noughts(), 1000, 2), deskOf(gapped(), 5), deskOf(dashes(), 1, 2, 3), deskOf(tens(), 9, 1, 2, 3, 4, 5, 6, 7, 8)} {
		desks := []impl.Desk{d}
		for _, a := range deeds {
			e, _ := impl.DeskDo(desks[len(desks)-1], a)
			desks = append(desks, e)
		}
		for cut := range len(text) + 1 {
			found, read := impl.ReadJournal(text[:cut])
			if want := strings.Count(text[:cut], "\n"); len(found) != want || read != strings.LastIndex(text[:cut], "\n")+1 {
				t.Fatalf("%q: ReadJournal %v, %d", text[:cut], found, read)
			}
			run, _ := impl.DeskRun(d, found)
			said, answers := impl.DeskSay(d, strings.Split(text[:read], "\n")[:len(found)])
			if want := desks[len(found)]; !sameDesk(run, want) || !sameDesk(said, want) || len(answers) != len(found) {
				t.Fatalf("%v, %q: DeskRun %v, DeskSay %v, %q, not %v", d, text[:cut], run, said, answers, want)
			}
		}
	}
}

// Promise 65: what is answered at one desk, told by hand.
func TestQuestionsOfTens(t *testing.T) {
	for _, d := range []impl.Desk{deskOf(tens(), 234), deskOf(tens(), 234, 5, 6), deskOf(tens(), 234, 1, 2, 3, 4, 5, 6, 7, 8)} {
		for line, answer := range map[string]string{
			"number": "234", "name": "two hundred three ten four", "words": "5", "count": "22", "ring": "4", "turned": "two hundred four and three ten", "away": "two hundred three ten four",
			"read one": "1", "read two hundred four": "204", "read ten hundred": "none", "read nine ten nine thousand nine hundred nine ten nine": "99999", "read one ten": "none", "read two hundred four and three ten": "none", "read one from thousand": "none", "read 234": "none", "read  ": "none", "read  one": "none", "read one ": "none",
			"spoken 1112": "three one,one two", "spoken 22": "two two", "spoken 1": "one one", "spoken 999999999": "nine nine", "spoken 0": "none", "spoken 1 ": "none", "spoken  1": "none", "spoken 12 3": "none", "spoken one": "none", "spoken 1111111111": "none",
			"spoken 31131211131221": "one three,two one,one three,one one,one two,three one,one three,one one,two two,one one",
			"to 234":                "not", "to 0": "not", "to 100000": "not", "to 999999": "not", "more 0": "not", "more 99766": "not", "less 234": "not", "less 0": "not", "less 999999": "not",
		} {
			checkAnswer(t, d, line, answer)
		}
		for _, line := range otherLines() {
			checkAnswer(t, d, line, "what")
		}
	}
}

// Promise 65: deeds told by hand.
func TestDeedsSaid(t *testing.T) {
	d := deskOf(tens(), 234)
	checkDeskLine(t, d, "to 999", deskOf(tens(), 999, 234), "ok")
	checkDeskLine(t, d, "more 1", deskOf(tens(), 235, 234), "ok")
	checkDeskLine(t, d, "less 233", deskOf(tens(), 1, 234), "ok")
	checkDeskLine(t, d, "letters", deskOf(tens(), 22, 234), "ok")
	checkAnswer(t, d, "back", "not")
	checkAnswer(t, deskOf(tens(), 4, 5), "letters", "not")
	checkDeskLine(t, deskOf(tens(), 4, 5), "back", deskOf(tens(), 5), "ok")
	checkDeskLine(t, deskOf(tens(), 5, 4, 5), "back", deskOf(tens(), 5, 4), "ok")
	checkDeskLine(t, deskOf(tens(), 9, 1, 2, 3, 4, 5, 6, 7, 8), "more 1", deskOf(tens(), 10, 2, 3, 4, 5, 6, 7, 8, 9), "ok")
	checkAnswer(t, deskOf(noughts(), 99), "more 1", "not")
	checkAnswer(t, deskOf(dashes(), 2), "letters", "not")
}

// Promise 65: rings of one number, of more, and none.
func TestRingsAsked(t *testing.T) {
	hums := unitsAlone("dot", "hum", "no")
	checkAnswer(t, deskOf(hums, 1), "ring", "3,2")
	checkAnswer(t, deskOf(hums, 2), "ring", "2,3")
	checkAnswer(t, deskOf(hums, 3), "ring", "3,2")
	for n := 1; n <= 3; n++ {
		checkAnswer(t, deskOf(dashes(), n), "ring", "none")
	}
	checkAnswer(t, deskOf(cuatro(), 4), "ring", "4,6")
	checkAnswer(t, deskOf(cuatro(), 6), "ring", "6,4")
	checkAnswer(t, deskOf(cuatro(), 5), "ring", "5")
	checkAnswer(t, deskOf(tens(), 99999), "ring", "4")
}

// Promise 65: turned and shorter names, and tongues, numbers and words of which there are none.
func TestTurnedAndShorterNamesAsked(t *testing.T) {
	for n, turned := range map[int]string{1: "one", 10: "ten", 20: "two ten", 23: "three and two ten", 100: "hundred", 204: "two hundred four", 11011: "ten one thousand one and ten", 99999: "nine ten nine thousand nine hundred nine and nine ten"} {
		checkAnswer(t, deskOf(tens(), n), "turned", turned)
	}
	for n, away := range map[int]string{
		1: "one", 6: "six", 7: "seven", 9: "nine", 10: "ten", 19: "ten nine", 97: "nine ten seven", 99: "nine ten nine", 199: "hundred nine ten nine", 299: "one from three hundred", 996: "nine hundred nine ten six", 997: "three from thousand", 999: "one from thousand", 1999: "one from two thousand", 99999: "nine ten nine thousand nine hundred nine ten nine",
	} {
		checkAnswer(t, deskOf(tens(), n), "away", away)
	}
	checkAnswer(t, deskOf(dashes(), 2), "turned", "none")
	checkAnswer(t, deskOf(dashes(), 2), "away", "dash")
	checkAnswer(t, deskOf(tongueBy(9, 25), 13), "turned", "none")
	checkAnswer(t, deskOf(tongueBy(9, 25), 13), "away", "na uc")
	for i, tongue := range joining() {
		name := impl.TextOf(tongue, 234)
		turned, away := "none", name
		if i >= 4 {
			turned, away = impl.TextOf(tongue, 200)+" four and "+impl.TextOf(tongue, 30), "none"
		}
		checkAnswer(t, deskOf(tongue, 234), "turned", turned)
		checkAnswer(t, deskOf(tongue, 234), "away", away)
		checkAnswer(t, deskOf(tongue, 234), "name", name)
	}
	checkAnswer(t, deskOf(withWord(tens(), 9, "and"), 999), "away", "one from thousand")
	checkAnswer(t, deskOf(withWord(tens(), 11, "from"), 11), "turned", "one and ten")
}

// Promise 65: words of the tongue that are those of deeds and questions change no line, and are read behind read alone.
func TestTonguesOfWordsThatAsk(t *testing.T) {
	d := deskOf(asking(), 1231)
	for line, answer := range map[string]string{
		"number": "1231", "name": "what more spoken less read to", "words": "6", "count": "24", "away": "what more spoken less read to", "turned": "what more spoken to and less read",
		"read to": "1", "read letters": "4", "read back": "5", "read number": "6", "read read": "10", "read none": "10000", "read what": "1000", "read what read to": "1011", "read to read": "none", "read to 1": "none", "spoken 1": "to to", "spoken 22": "more more",
		"what": "what", "none": "what", "read": "what", "spoken": "what", "to": "what", "more": "what", "to to": "what", "spoken to": "none", "back": "not", "what more": "what", "more spoken": "what", "none 1": "what",
	} {
		checkAnswer(t, d, line, answer)
	}
}

// Promise 65: all questions and deeds at desks of all tongues, against a speaker who takes no number apart.
func TestLinesInAllTongues(t *testing.T) {
	answers := map[string]int{}
	for _, tongue := range deskTongues() {
		s := speakerOf(t, tongue)
		named := s.namedOnes()
		for i, n := range named {
			for _, d := range []impl.Desk{deskOf(tongue, n), deskOf(tongue, n, named[(i+2)%len(named)]), deskOf(tongue, n, slices.Repeat([]int{n, named[0]}, 4)...)} {
				for _, line := range append(questionLines(), "read "+s.texts[n], "read "+s.texts[n]+" ", "name ", "") {
					want, answer := s.line(d, line)
					checkDeskLine(t, d, line, want, answer)
					word, _, _ := strings.Cut(line, " ")
					if answer == "none" || answer == "what" || answer == "not" || answer == "ok" {
						answers[word+" "+answer]++
					} else {
						answers[word]++
					}
				}
			}
		}
	}
	for _, kind := range []string{"number", "name", "words", "count", "ring", "ring none", "turned", "turned none", "away", "away none", "read", "read none", "spoken", "spoken none", "to ok", "to not", "more ok", "more not", "less ok", "less not", "letters ok", "letters not", "back ok", "back not", "name what"} {
		if answers[kind] < 10 {
			t.Fatalf("too few lines are answered so: %q: %v", kind, answers)
		}
	}
}

// Promise 59: the lines of the document's examples, with their answers.
func TestExamplesOfDesks(t *testing.T) {
	d, ok := impl.DeskNew(tens(), 234)
	if !ok {
		t.Fatal("no desk")
	}
	lines := linesOf("name|words|count|ring|turned|to 999|away|letters|number|back|more 1|name|read ten hundred|spoken 1112")
	answers := linesOf("two hundred three ten four|5|22|4|two hundred four and three ten|ok|one from thousand|ok|22|ok|ok|thousand|none|three one,one two")
	checkDeskSay(t, d, lines, deskOf(tens(), 1000, 234, 999), answers)
}

// Promise 59: lines that change what later ones are answered, told by hand.
func TestDeskSay(t *testing.T) {
	d := deskOf(tens(), 5)
	checkDeskSay(t, d, nil, d, nil)
	checkDeskSay(t, d, []string{}, d, nil)
	checkDeskSay(t, deskOf(tens(), 5, 6, 7), nil, deskOf(tens(), 5, 6, 7), nil)
	checkDeskSay(t, d, []string{""}, d, []string{"what"})
	checkDeskSay(t, d, linesOf("number|letters|number|letters|number|back|number|back|number"), d, linesOf("5|ok|4|not|4|ok|5|not|5"))
	checkDeskSay(t, d, linesOf("to 7||name|to 8|what|read|back|ring|less 7|less 6|words|count"), deskOf(tens(), 1, 5, 7), linesOf("ok|what|seven|ok|what|what|ok|4|not|ok|1|3"))
	checkDeskSay(t, deskOf(dashes(), 1), linesOf("ring|letters|more 1|less 1|letters|name|turned|away|spoken 123|spoken 4"), deskOf(dashes(), 2, 1, 3), linesOf("none|ok|not|ok|not|dash|none|dash|dot dot,dot dash,dot no|none"))
	checkDeskSay(t, d, linesOf("to 1|to 2|to 3|to 4|to 5|to 6|to 7|to 8|to 9|back|back|back|back|back|back|back|back|back|number"), deskOf(tens(), 1), linesOf("ok|ok|ok|ok|ok|ok|ok|ok|ok|ok|ok|ok|ok|ok|ok|ok|ok|not|1"))
}

// Promise 59: MaxLines lines, one more, and far more, whatever they are.
func TestDeskSayOfMaxLines(t *testing.T) {
	d := deskOf(tens(), 1)
	for _, many := range []int{38, 39, 40} {
		checkDeskSay(t, d, slices.Repeat([]string{"more 1"}, many), deskOf(tens(), many+1, rowTo(many)[many-8:]...), slices.Repeat([]string{"ok"}, many))
		checkDeskSay(t, d, make([]string, many), d, slices.Repeat([]string{"what"}, many))
		checkDeskSay(t, d, slices.Repeat([]string{"number"}, many), d, slices.Repeat([]string{"1"}, many))
	}
	for _, many := range []int{41, 42, 80, 296, 5000} {
		for _, line := range []string{"", "number", "more 1", "what", "less 1"} {
			e, answers := impl.DeskSay(d, slices.Repeat([]string{line}, many))
			checkNothing(t, "DeskSay", d, e)
			if len(answers) != 0 {
				t.Fatalf("%d times %q: DeskSay %q", many, line, answers)
			}
		}
	}
}

// Promise 59: all lists of a few lines, against a speaker who takes no number apart.
func TestDeskSayOfAllLists(t *testing.T) {
	for _, c := range []struct {
		d     impl.Desk
		lines []string
	}{
		{deskOf(tens(), 234), []string{"number", "letters", "back", "to 999", "more 1", "away", "read two ten", ""}},
		{deskOf(noughts(), 99, 1000), []string{"name", "letters", "back", "more 901", "less 1", "less 901", "turned", "words"}},
		{deskOf(dashes(), 2), []string{"ring", "letters", "back", "more 1", "less 1", "turned", "spoken 3", "to 3"}},
		{deskOf(cuatro(), 4, 1, 2, 3, 4, 5, 6, 7, 8), []string{"ring", "letters", "back", "to 99", "count", "away", "read", "more 1"}},
	} {
		s := speakerOf(t, c.d.Speech)
		listsUpTo(4, c.lines, func(lines []string) {
			want, answers := s.lines(c.d, lines)
			checkDeskSay(t, c.d, lines, want, answers)
		})
	}
}

// Promise 59: long lists of all kinds of lines, in all tongues.
func TestDeskSayOfLongLists(t *testing.T) {
	seed := uint32(7)
	for _, tongue := range deskTongues() {
		s := speakerOf(t, tongue)
		named := s.namedOnes()
		choice := append(questionLines(), slices.Repeat([]string{"letters", "back", "more 1", "less 1", "", "number", "name", "ring", "turned", "away", "to " + strconv.Itoa(named[len(named)-1])}, 5)...)
		for many := 0; many <= 40; many += 4 {
			lines := make([]string, many)
			for i := range lines {
				seed = seed*1664525 + 1013904223
				lines[i] = choice[int(seed>>8)%len(choice)]
			}
			d := deskOf(tongue, named[many%len(named)])
			want, answers := s.lines(d, lines)
			checkDeskSay(t, d, lines, want, answers)
		}
	}
}

// Promise 59: the names of numbers are read as these, in all tongues.
func TestNamesAreReadAtDesks(t *testing.T) {
	for _, tongue := range append(deskTongues(), goodTongues()...) {
		texts := textsBy(tongue)
		for n := 1; n <= 99999; n += 1 + n/100 {
			if texts[n] == "" {
				continue
			}
			_, answers := impl.DeskSay(deskOf(tongue, n), []string{"name", "read " + texts[n], "number"})
			if !slices.Equal(answers, []string{texts[n], strconv.Itoa(n), strconv.Itoa(n)}) {
				t.Fatalf("%v, %d: %q", tongue, n, answers)
			}
		}
	}
}

// Promises 56, 57, 59 and 65: nothing comes of what is no desk, by any function.
func TestNothingAtWrongDesks(t *testing.T) {
	for _, d := range wrongDesks() {
		for _, a := range []impl.Deed{to(1), to(2), to(5), more(1), less(1), letters(), back(), deed(5, 0), deed(-1, 0), to(0)} {
			e, ok := impl.DeskDo(d, a)
			checkNothing(t, "DeskDo", d, e)
			for _, deeds := range [][]impl.Deed{nil, {a}, {a, back()}, slices.Repeat([]impl.Deed{a}, 41)} {
				f, done := impl.DeskRun(d, deeds)
				checkNothing(t, "DeskRun", d, f)
				if ok || done != 0 {
					t.Fatalf("%v, %v: DeskDo %v, DeskRun %d", d, a, ok, done)
				}
			}
		}
		for _, line := range []string{"", "number", "name", "words", "count", "ring", "turned", "away", "read one", "spoken 1", "letters", "back", "to 1", "to 5", "more 1", "less 1", "what"} {
			e, answer := impl.DeskLine(d, line)
			checkNothing(t, "DeskLine", d, e)
			for _, lines := range [][]string{nil, {line}, {line, "number"}, slices.Repeat([]string{line}, 41)} {
				f, answers := impl.DeskSay(d, lines)
				checkNothing(t, "DeskSay", d, f)
				if answer != "" || len(answers) != 0 {
					t.Fatalf("%v, %q: DeskLine %q, DeskSay %q", d, line, answer, answers)
				}
			}
		}
	}
}

// guardedDesk is a desk each list of which is guarded.
type guardedDesk struct {
	speech guardedTongue
	now    int
	past   guarded[int]
}

func guardDesk(d impl.Desk) guardedDesk {
	return guardedDesk{speech: guardTongue(d.Speech), now: d.Now, past: guard(d.Past, spare)}
}

func (g guardedDesk) desk() impl.Desk {
	return impl.Desk{Speech: g.speech.tongue(), Now: g.now, Past: g.past.list}
}

func (g guardedDesk) check(t *testing.T, what string) {
	t.Helper()
	g.speech.check(t, what)
	g.past.check(t, what+", past")
}

// scribbleDesk overwrites all lists of a desk, with all spare capacity.
func scribbleDesk(d impl.Desk) {
	scribbleTongue(d.Speech)
	scribble(d.Past, other)
}

// desksFrom are all desks that functions return of one desk, by their names, in the same order each time.
func desksFrom(d impl.Desk) ([]string, []impl.Desk) {
	names, desks := []string{}, []impl.Desk{}
	put := func(name string, e impl.Desk) {
		names, desks = append(names, name), append(desks, e)
	}
	e, _ := impl.DeskNew(d.Speech, d.Now)
	put("DeskNew", e)
	for _, a := range []impl.Deed{to(1), to(2), more(1), less(1), letters(), back(), to(0), deed(9, 0)} {
		e, _ := impl.DeskDo(d, a)
		put("DeskDo "+impl.DeedText(a), e)
		e, _ = impl.DeskRun(d, []impl.Deed{a})
		put("DeskRun "+impl.DeedText(a), e)
	}
	e, _ = impl.DeskRun(d, nil)
	put("DeskRun of none", e)
	e, _ = impl.DeskRun(d, slices.Repeat([]impl.Deed{more(1), back(), letters(), less(1)}, 10))
	put("DeskRun of many", e)
	for _, line := range []string{"to 1", "to 2", "more 1", "less 1", "letters", "back", "to 0", "number", "name", "ring", "turned", "away", "read one", "spoken 12", "what", ""} {
		e, _ := impl.DeskLine(d, line)
		put("DeskLine "+line, e)
		e, _ = impl.DeskSay(d, []string{line})
		put("DeskSay "+line, e)
	}
	e, _ = impl.DeskSay(d, nil)
	put("DeskSay of none", e)
	e, _ = impl.DeskSay(d, []string{"more 1", "back", "name", "letters", "less 1"})
	put("DeskSay of many", e)
	return names, desks
}

// No function of the chapter writes into a slice of a desk or of its tongue, or into a list, whether it is valid or not.
func TestDesksArgumentsStay(t *testing.T) {
	for _, given := range append(goodDesks(), wrongDesks()...) {
		g := guardDesk(given)
		impl.DeskOk(g.desk())
		g.check(t, "DeskOk")
		impl.DeskNew(g.desk().Speech, given.Now)
		g.check(t, "DeskNew")
		for _, a := range []impl.Deed{to(1), to(2), more(1), less(1), letters(), back(), to(0), deed(9, 0)} {
			impl.DeskDo(g.desk(), a)
			g.check(t, "DeskDo")
		}
		for _, many := range []int{0, 1, 5, 40, 41} {
			deeds := guard(slices.Repeat([]impl.Deed{more(1), back(), letters(), deed(9, 9), less(1)}, 9)[:many], deed(spare, spare))
			impl.DeskRun(g.desk(), deeds.list)
			g.check(t, "DeskRun")
			deeds.check(t, "DeskRun, deeds")
			lines := guard(slices.Repeat([]string{"more 1", "back", "ring", "", "letters", "read one"}, 9)[:many], spareWord)
			impl.DeskSay(g.desk(), lines.list)
			g.check(t, "DeskSay")
			lines.check(t, "DeskSay, lines")
		}
		for _, line := range []string{"to 1", "more 1", "back", "letters", "number", "name", "words", "count", "ring", "turned", "away", "read one", "spoken 12", "what", ""} {
			impl.DeskLine(g.desk(), line)
			g.check(t, "DeskLine")
		}
	}
	for _, deeds := range [][]impl.Deed{nil, {to(1), back()}, {to(1), deed(9, 9), back()}} {
		g := guard(deeds, deed(spare, spare))
		impl.JournalText(g.list)
		g.check(t, "JournalText")
	}
}

// What is written into a desk, and behind its lists, is found neither in the desk that was given nor in another one that was returned.
func TestDesksAreNew(t *testing.T) {
	for _, given := range goodDesks() {
		names, wanted := desksFrom(given)
		for i, e := range wanted {
			wanted[i] = copyOfDesk(e)
		}
		g := guardDesk(given)
		_, first := desksFrom(g.desk())
		_, second := desksFrom(g.desk())
		for i := range first {
			scribbleDesk(first[i])
			g.check(t, names[i])
			for j := range second {
				if !sameDesk(second[j], wanted[j]) || j > i && !sameDesk(first[j], wanted[j]) {
					t.Fatalf("%v: %s and %s share memory: %v, %v", given, names[i], names[j], first[j], second[j])
				}
			}
		}
		scribbleDesk(g.desk())
		for i, e := range second {
			if !sameDesk(e, wanted[i]) {
				t.Fatalf("%v: %s shares memory with the desk: %v", given, names[i], e)
			}
		}
	}
}

// No two lists of a desk share memory, even where one grows.
func TestListsOfDesksGrowApart(t *testing.T) {
	for _, given := range goodDesks() {
		names, desks := desksFrom(given)
		for i, e := range desks {
			want := copyOfDesk(e)
			scribble(e.Past, other)
			if !slices.Equal(e.Speech.Bases, want.Speech.Bases) {
				t.Fatalf("%v: %s: bases share memory with numbers of before: %v", given, names[i], e)
			}
			scribble(e.Speech.Units, otherWord)
			if !slices.Equal(e.Speech.Names, want.Speech.Names) {
				t.Fatalf("%v: %s: names share memory with units: %v", given, names[i], e)
			}
		}
		_, desks = desksFrom(given)
		for i, e := range desks {
			want := copyOfDesk(e)
			scribble(e.Speech.Names, otherWord)
			if !slices.Equal(e.Speech.Units, want.Speech.Units) {
				t.Fatalf("%v: %s: units share memory with names: %v", given, names[i], e)
			}
			scribble(e.Speech.Bases, other)
			if !slices.Equal(e.Past, want.Past) {
				t.Fatalf("%v: %s: numbers of before share memory with bases: %v", given, names[i], e)
			}
		}
	}
}

// What is written into deeds that are read, and into answers, and behind them, is found in no others, nor in the lines.
func TestDeedsReadAndAnswersAreNew(t *testing.T) {
	for _, text := range []string{"to 7\n", "to 7\nback\nless 1\n", strings.Repeat("letters\n", 17)} {
		want, _ := journalBy(text)
		first, _ := impl.ReadJournal(text)
		second, _ := impl.ReadJournal(text)
		scribble(first, deed(other, other))
		if third, _ := impl.ReadJournal(text); !slices.Equal(second, want) || !slices.Equal(third, want) {
			t.Fatalf("%q: deeds share memory: %v, %v", text, second, third)
		}
	}
	for _, lines := range [][]string{{"number"}, {"what", "ok", "number", "what"}, {"name", "letters", "name", "back", "", "ring"}, slices.Repeat([]string{"what"}, 40)} {
		g := guard(lines, spareWord)
		d := deskOf(tens(), 234)
		_, first := impl.DeskSay(d, g.list)
		want := slices.Clone(first)
		_, second := impl.DeskSay(d, g.list)
		scribble(first, otherWord)
		g.check(t, "DeskSay")
		scribble(g.list, otherWord)
		if !slices.Equal(second, want) {
			t.Fatalf("%q: answers share memory: %q, not %q", lines, second, want)
		}
	}
}

// An answer depends on the arguments alone, whatever was asked before: desks of other tongues, numbers and numbers of before answer otherwise.
func TestDesksKeepNoState(t *testing.T) {
	for range 3 {
		checkAnswer(t, deskOf(tens(), 4), "name", "four")
		checkAnswer(t, deskOf(cuatro(), 4), "name", "cuatro")
		checkAnswer(t, deskOf(tens(), 4), "ring", "4")
		checkAnswer(t, deskOf(cuatro(), 4), "ring", "4,6")
		checkAnswer(t, deskOf(cuatro(), 4), "read four", "none")
		checkAnswer(t, deskOf(tens(), 1), "read four", "4")
		checkDone(t, deskOf(tens(), 4), more(1), deskOf(tens(), 5, 4))
		checkNotDone(t, deskOf(tens(), 4), back())
		checkDone(t, deskOf(tens(), 4, 2), back(), deskOf(tens(), 2))
		checkDeskRun(t, deskOf(tens(), 5), []impl.Deed{letters(), letters()}, deskOf(tens(), 4, 5), 1)
		checkDeskSay(t, deskOf(tens(), 5), []string{"letters", "number"}, deskOf(tens(), 4, 5), []string{"ok", "4"})
		checkDesk(t, impl.Desk{}, false)
		checkJournal(t, "back\nto 1\n", []impl.Deed{back(), to(1)}, 10)
		checkJournal(t, "back", nil, 0)
	}
}
