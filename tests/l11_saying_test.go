package tests

import (
	"math"
	"slices"
	"strconv"
	"strings"
	"testing"

	"loop.example/numberwords/impl"
)

// rowBy is the row of some runs: what is told of runs in these tests is told of rows that are made of them.
func rowBy(runs []impl.Run) string {
	row := ""
	for _, run := range runs {
		row += strings.Repeat(strconv.Itoa(run.Digit), run.Times)
	}
	return row
}

// saidBy is what is said of the row of some runs, however long it is.
func saidBy(runs []impl.Run) string {
	said := ""
	for _, run := range runs {
		said += strconv.Itoa(run.Times) + strconv.Itoa(run.Digit)
	}
	return said
}

// runsFrom are runs, of each how often and the digit, one behind the other.
func runsFrom(pairs ...int) []impl.Run {
	runs := []impl.Run{}
	for pair := range slices.Chunk(pairs, 2) {
		runs = append(runs, impl.Run{Times: pair[0], Digit: pair[1]})
	}
	return runs
}

// runsBy takes runs from the end of a text, each as what is trimmed there.
func runsBy(text string) []impl.Run {
	runs := []impl.Run{}
	for text != "" {
		digit := text[len(text)-1:]
		rest := strings.TrimRight(text, digit)
		n, _ := strconv.Atoi(digit)
		runs = slices.Insert(runs, 0, impl.Run{Times: len(text) - len(rest), Digit: n})
		text = rest
	}
	return runs
}

// isRow tells piece by piece what a row is.
func isRow(text string) bool {
	ok := len(text) <= 60 && strings.Trim(text, "123456789") == ""
	for digit := range strings.SplitSeq("123456789", "") {
		ok = ok && !strings.Contains(text, strings.Repeat(digit, 10))
	}
	return ok
}

// sayingsBy are a row and what is said of it once, twice and so on, up to ten times or as long as it is told; none of a text that is no row.
func sayingsBy(text string) []string {
	sayings := []string{}
	for isRow(text) && len(sayings) <= 10 {
		sayings = append(sayings, text)
		text = saidBy(runsBy(text))
	}
	return sayings
}

// runsUpTo calls do with all lists of at most most runs of some times and digits, no two beside each other of the same digit.
func runsUpTo(most int, times []int, digits []int, do func([]impl.Run)) {
	var choice []impl.Run
	for _, many := range times {
		for _, digit := range digits {
			choice = append(choice, impl.Run{Times: many, Digit: digit})
		}
	}
	var grow func(runs []impl.Run)
	grow = func(runs []impl.Run) {
		do(slices.Clone(runs))
		if len(runs) == most {
			return
		}
		for _, run := range choice {
			if len(runs) == 0 || runs[len(runs)-1].Digit != run.Digit {
				grow(append(runs, run))
			}
		}
	}
	grow(make([]impl.Run, 0, most))
}

// textsOver calls do with all texts of at most most pieces.
func textsOver(pieces string, most int, do func(string)) {
	listsUpTo(most, strings.Split(pieces, ""), func(list []string) { do(strings.Join(list, "")) })
}

// digitsTo are the digits from 1 up to one.
func digitsTo(most int) []int {
	list := make([]int, most)
	for i := range list {
		list[i] = i + 1
	}
	return list
}

// goodRows are rows of the fewest and the most digits and runs, and rows of which it is told from not once up to ten times what is said.
func goodRows() []string {
	return []string{
		"", "1", "2", "3", "4", "5", "6", "7", "8", "9", "11", "22", "99", "12", "21", "122", "221", "111", "222", "333", "1112", "1211", "111221", "312211", "123456789", "987654321",
		strings.Repeat("1", 9), strings.Repeat("9", 9), strings.Repeat("2", 9) + "1" + strings.Repeat("2", 9),
		strings.Repeat("12", 30), strings.Repeat("98", 30), strings.Repeat("12", 15), strings.Repeat("12", 15) + "1", strings.Repeat("1122", 15), strings.Repeat("123456789", 6) + "123456", sixNines() + "777777", sixNines(),
		strings.Repeat("12345", 7), strings.Repeat("1234", 6), strings.Repeat("1234", 5), strings.Repeat("12", 7), "1242423", "123232", "12323", "232", "231", "32", "13", "41111", "133", "112", "211",
	}
}

// sixNines is nine times 1, nine times 2, and so on up to 6: 54 digits.
func sixNines() string {
	row := ""
	for digit := range strings.SplitSeq("123456", "") {
		row += strings.Repeat(digit, 9)
	}
	return row
}

// notRows are texts that are no rows, each for a reason of its own.
func notRows() []string {
	return []string{
		"0", "00", "10", "01", "101", "a", "z", "A", "1a", "a1", "1a1", " ", "1 ", " 1", "1 1", "-1", "+1", "1.0", "1,2", "1\n", "\n", "\t", "\x00", "1\x00", "\xff", "1\xff2", "/", ":", "1/", "1:", "one", "\u00b2", "\uff11", "\u0661", "22\u00b9",
		strings.Repeat("1", 10), strings.Repeat("9", 10), strings.Repeat("1", 11), "2" + strings.Repeat("1", 10), strings.Repeat("1", 10) + "2", "2" + strings.Repeat("1", 10) + "2", strings.Repeat("5", 60),
		strings.Repeat("12", 30) + "1", strings.Repeat("123", 21), sixNines() + "7777777", strings.Repeat("12", 31), strings.Repeat("1", 61), strings.Repeat("0", 60), strings.Repeat("12", 29) + "10", strings.Repeat("12", 29) + "0",
		strings.Repeat("12", 100000), strings.Repeat("1", 300000), strings.Repeat("\x00", 70), strings.Repeat("1", 256), strings.Repeat("12", 128), strings.Repeat("1", 257), strings.Repeat("1", 265),
	}
}

// notSaid are numbers of times that one does not say what is seen.
func notSaid() []int {
	return append(outside(), 11, 12, 20, 60, 255, 256, 257, 266, -10, -11)
}

// checkRow fails unless a text is a row, or is none; without its last digit a row is one.
func checkRow(t *testing.T, text string, want bool) {
	t.Helper()
	if got := impl.RowOk(text); got != want {
		t.Fatalf("%q: RowOk %v, not %v", text, got, want)
	}
	if want && text != "" && !impl.RowOk(text[:len(text)-1]) {
		t.Fatalf("%q: without its last digit it is no row", text)
	}
}

// checkRuns fails unless a row has just these runs, which are the row again, no two of the same digit beside each other.
func checkRuns(t *testing.T, row string, want ...impl.Run) {
	t.Helper()
	runs := impl.RunsOf(row)
	if !slices.Equal(runs, want) {
		t.Fatalf("%q: RunsOf %v, not %v", row, runs, want)
	}
	if again := rowBy(runs); again != row {
		t.Fatalf("%q: RunsOf %v, which are %q", row, runs, again)
	}
	for i := 1; i < len(runs); i++ {
		if runs[i].Digit == runs[i-1].Digit {
			t.Fatalf("%q: RunsOf %v, two of the same digit beside each other", row, runs)
		}
	}
}

// checkSaid fails unless this is said of a row: two digits for each run, put back the row, and the row itself only if that is empty or 22.
func checkSaid(t *testing.T, row string, want string) {
	t.Helper()
	said, ok := impl.SaidOf(row)
	if said != want || !ok {
		t.Fatalf("%q: SaidOf %q, %v, not %q", row, said, ok, want)
	}
	if len(said) != 2*len(impl.RunsOf(row)) || !impl.RowOk(said) {
		t.Fatalf("%q: SaidOf %q, of %v", row, said, impl.RunsOf(row))
	}
	if back, ok := impl.UnsaidOf(said); back != row || !ok {
		t.Fatalf("%q: SaidOf %q, put back %q, %v", row, said, back, ok)
	}
	if said == row && row != "" && row != "22" {
		t.Fatalf("%q: SaidOf is the row", row)
	}
}

// checkUnsaid fails unless a row is said of this one.
func checkUnsaid(t *testing.T, said string, want string) {
	t.Helper()
	row, ok := impl.UnsaidOf(said)
	if row != want || !ok {
		t.Fatalf("%q: UnsaidOf %q, %v, not %q", said, row, ok, want)
	}
	if again, ok := impl.SaidOf(row); again != said || !ok {
		t.Fatalf("%q: UnsaidOf %q, of which is said %q, %v", said, row, again, ok)
	}
}

// checkNothingSaid fails if something is said of a text.
func checkNothingSaid(t *testing.T, text string) {
	t.Helper()
	if said, ok := impl.SaidOf(text); said != "" || ok {
		t.Fatalf("%q: SaidOf %q, %v", text, said, ok)
	}
}

// checkNeverSaid fails if there is a row of which a text is said.
func checkNeverSaid(t *testing.T, text string) {
	t.Helper()
	if row, ok := impl.UnsaidOf(text); row != "" || ok {
		t.Fatalf("%q: UnsaidOf %q, %v", text, row, ok)
	}
}

// checkAgain fails unless these are what is said of a row 0 times, once, and so on, and no more is told: each of it is said of the one before.
func checkAgain(t *testing.T, row string, want ...string) {
	t.Helper()
	for times, text := range want {
		said, ok := impl.SaidAgain(row, times)
		if said != text || !ok {
			t.Fatalf("%q, %d times: SaidAgain %q, %v, not %q", row, times, said, ok, text)
		}
		if once, ok := impl.SaidOf(want[max(times-1, 0)]); times > 0 && (once != said || !ok) {
			t.Fatalf("%q, %d times: SaidAgain %q, but of the one before %q, %v", row, times, said, once, ok)
		}
		for digit := range strings.SplitSeq("123456789", "") {
			if times > 0 && strings.Contains(said, strings.Repeat(digit, 4)) {
				t.Fatalf("%q, %d times: %q has a digit more than three times at once", row, times, said)
			}
		}
	}
	for times := len(want); times <= 14; times++ {
		checkNotAgain(t, row, times)
	}
	for _, times := range notSaid() {
		checkNotAgain(t, row, times)
	}
}

// checkNotAgain fails if it is told what is said of a text so many times.
func checkNotAgain(t *testing.T, text string, times int) {
	t.Helper()
	if said, ok := impl.SaidAgain(text, times); said != "" || ok {
		t.Fatalf("%q, %d times: SaidAgain %q, %v", text, times, said, ok)
	}
}

// checkFalls fails unless two texts fall apart for 0 times, once and so on, just so many ones, 0 if never; if they do, what is said of both, one behind the other, is what is said of each.
func checkFalls(t *testing.T, a string, b string, many int) {
	t.Helper()
	for times := range 15 {
		if got, want := impl.FallsApart(a, b, times), times < many; got != want {
			t.Fatalf("%q and %q, %d times: FallsApart %v, not %v", a, b, times, got, want)
		}
		if both, ok := impl.SaidAgain(a+b, times); ok && times < many {
			first, _ := impl.SaidAgain(a, times)
			second, _ := impl.SaidAgain(b, times)
			if both != first+second {
				t.Fatalf("%q and %q, %d times: of both is said %q, but %q and %q", a, b, times, both, first, second)
			}
		}
	}
	for _, times := range notSaid() {
		if impl.FallsApart(a, b, times) {
			t.Fatalf("%q and %q, %d times: FallsApart", a, b, times)
		}
	}
}

// apartBy tells how many numbers of times from 0 on two rows fall apart: the last digit of what is said of a row is always that of the row.
func apartBy(a string, b string) int {
	first, second := sayingsBy(a), sayingsBy(b)
	many := min(len(first), len(second))
	if a == "" || b == "" {
		return 0
	}
	for times, said := range second[:many] {
		if strings.HasPrefix(said, a[len(a)-1:]) {
			return times
		}
	}
	return many
}

// checkSpoken fails unless these texts are spoken of a row, one for each run, which begins with how often.
func checkSpoken(t *testing.T, tongue impl.Tongue, row string, want ...string) {
	t.Helper()
	texts := impl.SpokenOf(tongue, row)
	if !slices.Equal(texts, want) {
		t.Fatalf("%v, %q: SpokenOf %q, not %q", tongue, row, texts, want)
	}
	if len(texts) == 0 {
		return
	}
	runs := impl.RunsOf(row)
	if len(texts) != len(runs) {
		t.Fatalf("%v, %q: SpokenOf %q, but the runs are %v", tongue, row, texts, runs)
	}
	for i, run := range runs {
		if times := impl.TextOf(tongue, run.Times); times == "" || !strings.HasPrefix(texts[i], times+" ") {
			t.Fatalf("%v, %q: SpokenOf %q begins with other than %q", tongue, row, texts[i], times)
		}
	}
}

// checkNoRow fails unless nothing is told of a text, by any function.
func checkNoRow(t *testing.T, text string) {
	t.Helper()
	checkRow(t, text, false)
	if runs := impl.RunsOf(text); len(runs) != 0 {
		t.Fatalf("%q: RunsOf %v", text, runs)
	}
	checkNothingSaid(t, text)
	checkNeverSaid(t, text)
	checkAgain(t, text)
	checkFalls(t, text, text, 0)
	for _, row := range []string{"", "1", "2", "4", "22", "12", strings.Repeat("12", 30)} {
		checkFalls(t, text, row, 0)
		checkFalls(t, row, text, 0)
	}
	checkSpoken(t, tens(), text)
	checkSpoken(t, wordy(), text)
}

func TestConstantsOfSaying(t *testing.T) {
	if impl.MaxRow != 60 || impl.MaxSaid != 10 {
		t.Fatal(impl.MaxRow, impl.MaxSaid)
	}
}

// Promise 49.
func TestRowOk(t *testing.T) {
	for _, row := range goodRows() {
		checkRow(t, row, true)
	}
	for _, text := range notRows() {
		checkRow(t, text, false)
	}
	for many := range 64 {
		checkRow(t, strings.Repeat("12", many/2)+strings.Repeat("1", many%2), many <= 60)
		checkRow(t, strings.Repeat("789", many/3)+"789"[:many%3], many <= 60)
	}
}

// Promise 49: each digit so many times at once, at the beginning, in the middle and at the end, and more often, but not at once.
func TestRowOkOfDigitsAtOnce(t *testing.T) {
	for digit := range strings.SplitSeq("123456789", "") {
		others := strings.ReplaceAll("1234565432", digit, "")
		for many := range 14 {
			run := strings.Repeat(digit, many)
			for _, text := range []string{run, run + others, others + run, others + run + others, others + run + others + run + others} {
				checkRow(t, text, many <= 9)
			}
		}
		nine, other := strings.Repeat(digit, 9), others[:1]
		checkRow(t, nine+other+nine+other+nine+other+nine, true)
		checkRow(t, nine+other+nine+other+nine+digit+other, false)
		checkRow(t, strings.Repeat(digit+other, 30), true)
		checkRow(t, nine+other+digit+nine, false)
	}
}

// Promise 49: each byte at each place of rows of each length.
func TestRowOkAtEachPlace(t *testing.T) {
	for _, many := range []int{1, 2, 3, 9, 10, 59, 60, 61} {
		for place := range many {
			for b := range 256 {
				text := []byte(strings.Repeat("12", 31)[:many])
				text[place] = byte(b)
				checkRow(t, string(text), many <= 60 && b >= 49 && b <= 57)
			}
		}
	}
}

// Promise 49: all texts of some digits, against what is told piece by piece.
func TestRowOkOfTexts(t *testing.T) {
	kinds := map[bool]int{}
	check := func(text string) {
		checkRow(t, text, isRow(text))
		kinds[isRow(text)]++
	}
	textsOver("0129:", 5, check)
	textsOver("12", 12, check)
	for _, long := range []string{strings.Repeat("12", 27), strings.Repeat("112", 17), sixNines()} {
		textsOver("16", 8, func(text string) { check(long + text) })
	}
	if kinds[true] < 1000 || kinds[false] < 1000 {
		t.Fatalf("of one kind there are too few texts: %v", kinds)
	}
}

// Promise 50: runs told by hand.
func TestRunsOf(t *testing.T) {
	for _, c := range []struct {
		row  string
		want []impl.Run
	}{
		{"", nil}, {"1", runsFrom(1, 1)}, {"9", runsFrom(1, 9)}, {"11", runsFrom(2, 1)}, {"12", runsFrom(1, 1, 1, 2)}, {"21", runsFrom(1, 2, 1, 1)},
		{"1112", runsFrom(3, 1, 1, 2)}, {"1222", runsFrom(1, 1, 3, 2)}, {"1211", runsFrom(1, 1, 1, 2, 2, 1)}, {"1121", runsFrom(2, 1, 1, 2, 1, 1)}, {"5555577", runsFrom(5, 5, 2, 7)},
		{"111111111", runsFrom(9, 1)}, {"999999999", runsFrom(9, 9)}, {"999999999888888888", runsFrom(9, 9, 9, 8)}, {"1111111112111111111", runsFrom(9, 1, 1, 2, 9, 1)},
		{"123456789", runsFrom(1, 1, 1, 2, 1, 3, 1, 4, 1, 5, 1, 6, 1, 7, 1, 8, 1, 9)},
		{sixNines() + "777777", runsFrom(9, 1, 9, 2, 9, 3, 9, 4, 9, 5, 9, 6, 6, 7)},
		{strings.Repeat("12", 30), slices.Repeat(runsFrom(1, 1, 1, 2), 30)}, {strings.Repeat("331", 20), slices.Repeat(runsFrom(2, 3, 1, 1), 20)},
	} {
		checkRuns(t, c.row, c.want...)
	}
	for digit := 1; digit <= 9; digit++ {
		for times := 1; times <= 9; times++ {
			checkRuns(t, strings.Repeat(strconv.Itoa(digit), times), impl.Run{Times: times, Digit: digit})
		}
	}
	for many := range 61 {
		row := strings.Repeat("798", 20)[:many]
		checkRuns(t, row, slices.Repeat(runsFrom(1, 7, 1, 9, 1, 8), 20)[:many]...)
	}
}

// Promises 50 to 52: all rows of a few runs, against the runs they are made of.
func TestSayingOfRuns(t *testing.T) {
	long := 0
	check := func(runs []impl.Run) {
		row := rowBy(runs)
		if len(row) > 60 {
			checkNoRow(t, row)
			checkNeverSaid(t, saidBy(runs))
			long++
			return
		}
		checkRow(t, row, true)
		checkRuns(t, row, runs...)
		checkSaid(t, row, saidBy(runs))
		checkUnsaid(t, saidBy(runs), row)
	}
	runsUpTo(2, digitsTo(9), digitsTo(9), check)
	runsUpTo(4, []int{1, 2, 9}, []int{1, 2, 9}, check)
	runsUpTo(8, []int{1, 9}, []int{3, 4}, check)
	if long < 20 {
		t.Fatalf("only %d rows are too long", long)
	}
}

// Promises 50 to 55: texts that are no rows.
func TestNothingToldOfNoRow(t *testing.T) {
	for _, text := range notRows() {
		checkNoRow(t, text)
	}
	textsOver("012a ", 3, func(text string) {
		if strings.ContainsAny(text, "0a ") {
			checkNoRow(t, text)
		}
	})
	for b := range 256 {
		if text := string([]byte{byte(b)}); b < 49 || b > 57 {
			checkNoRow(t, text)
			checkNoRow(t, "1"+text)
			checkNoRow(t, text+"1")
			checkNoRow(t, "1"+text+"22")
		}
	}
}

// Promise 51: told by hand.
func TestSaidOf(t *testing.T) {
	for row, want := range map[string]string{
		"": "", "1": "11", "9": "19", "11": "21", "21": "1211", "1211": "111221", "111221": "312211", "312211": "13112221", "22": "22", "2": "12", "222": "32", "2222": "42", "333": "33", "3": "13", "4444": "44", "22222": "52",
		"1112": "3112", "122": "1122", "221": "2211", "2222222": "72", "111111111": "91", "999999999": "99", "123456789": "111213141516171819", "999999999111111111": "9991", "9999": "49", "55555": "55", "666666": "66",
		sixNines() + "777777": "91929394959667", strings.Repeat("12", 14): strings.Repeat("1112", 14), strings.Repeat("1122", 15): strings.Repeat("2122", 15), "2211": "2221", "1122": "2122",
	} {
		checkSaid(t, row, want)
	}
}

// Promise 51: what is said is just MaxRow digits long, for rows of 30 runs, or longer, for rows of more, however long the rows are.
func TestSaidOfMaxRow(t *testing.T) {
	for _, tail := range []string{"", "1", "12", "12121212"} {
		for many := range 31 {
			runs := strings.Repeat("34", 16)[:many]
			for _, row := range []string{runs + tail, strings.ReplaceAll(runs, "3", "33") + tail, strings.ReplaceAll(runs, "4", "44") + tail} {
				if len(row) > 60 {
					continue
				}
				if all := many + len(tail); all <= 30 {
					checkSaid(t, row, saidBy(runsBy(row)))
				} else {
					checkRow(t, row, true)
					checkRuns(t, row, runsBy(row)...)
					checkNothingSaid(t, row)
				}
			}
		}
	}
	checkSaid(t, strings.Repeat("12", 15), strings.Repeat("1112", 15))
	checkSaid(t, strings.Repeat("21", 14)+"21", strings.Repeat("1211", 15))
	checkNothingSaid(t, strings.Repeat("12", 15)+"1")
	checkNothingSaid(t, strings.Repeat("12", 15)+"3")
	checkNothingSaid(t, strings.Repeat("12", 30))
	checkNothingSaid(t, strings.Repeat("112", 20))
	checkNothingSaid(t, strings.Repeat("123456789", 6))
}

// Promise 51: only the empty row and 22 are said as themselves; no row has been said with a digit more than three times at once.
func TestSaidAsItself(t *testing.T) {
	same := []string{}
	check := func(row string) {
		said, ok := impl.SaidOf(row)
		if ok && said == row && !slices.Contains(same, row) {
			same = append(same, row)
		}
		for digit := range strings.SplitSeq("123456789", "") {
			if strings.Contains(said, strings.Repeat(digit, 4)) {
				t.Fatalf("%q: SaidOf %q", row, said)
			}
		}
	}
	textsOver("123456789", 4, check)
	textsOver("123", 8, check)
	textsOver("12", 12, check)
	if !slices.Equal(same, []string{"", "22"}) {
		t.Fatalf("rows said as themselves: %q", same)
	}
	// The most of one digit at once: once it, it so many times as it tells, and it times another one.
	checkSaid(t, "1211", "111221")
	checkSaid(t, "2334", "122314")
	checkSaid(t, "22334444", "222344")
	checkSaid(t, "92222222229", "199219")
	checkSaid(t, strings.Repeat("8", 9)+strings.Repeat("9", 9)+strings.Repeat("7", 9), "989997")
}

// Promise 52: told by hand.
func TestUnsaidOf(t *testing.T) {
	for said, want := range map[string]string{
		"": "", "11": "1", "12": "2", "21": "11", "22": "22", "1211": "21", "111221": "1211", "312211": "111221", "3112": "1112", "99": "999999999", "91": "111111111", "19": "9", "33": "333",
		"9192": "111111111222222222", "111213141516171819": "123456789", "91929394959667": sixNines() + "777777", "919293949596": sixNines(),
		strings.Repeat("1112", 15): strings.Repeat("12", 15), strings.Repeat("2122", 15): strings.Repeat("1122", 15), strings.Repeat("1112", 14) + "1113": strings.Repeat("12", 14) + "13",
	} {
		checkUnsaid(t, said, want)
	}
	// An odd number of digits, or two runs of the same digit beside each other.
	for _, row := range []string{
		"1", "2", "9", "121", "111", "123", "211", "999", "12131", "111213141516171", strings.Repeat("12", 29) + "1",
		"1111", "1121", "2111", "2222", "1222", "9999", "112111", "3131", "2242", "1213141313", "111112", "121131", "11211231", "1112131242", "12213141",
		strings.Repeat("1211", 14) + "1121", "1111" + strings.Repeat("1211", 14), strings.Repeat("21", 30), strings.Repeat("12", 30), "9191", "919191",
	} {
		checkRow(t, row, true)
		checkNeverSaid(t, row)
	}
}

// Promise 52: rows that put back would be longer than MaxRow by one digit and by many.
func TestUnsaidOfMaxRow(t *testing.T) {
	for last := 1; last <= 9; last++ {
		said := "919293949596" + strconv.Itoa(last) + "7"
		if last <= 6 {
			checkUnsaid(t, said, sixNines()+strings.Repeat("7", last))
		} else {
			checkRow(t, said, true)
			checkNeverSaid(t, said)
		}
	}
	checkUnsaid(t, strings.Repeat("2122", 14)+"1132", strings.Repeat("1122", 14)+"1222")
	checkNeverSaid(t, strings.Repeat("2122", 14)+"2132")
	checkNeverSaid(t, strings.Repeat("2122", 14)+"3132")
	checkUnsaid(t, "91929394959617181718", sixNines()+"7878")
	for _, row := range []string{strings.Repeat("9192", 15), strings.Repeat("9192", 4), strings.Repeat("2132", 15), strings.Repeat("4142", 8)} {
		checkRow(t, row, true)
		checkNeverSaid(t, row)
	}
	checkUnsaid(t, strings.Repeat("4142", 7)+"31", strings.Repeat("11112222", 7)+"111")
}

// Promise 52: all texts of a few digits, against all rows of which they may be said.
func TestUnsaidOfTexts(t *testing.T) {
	for _, c := range []struct {
		digits string
		most   int
	}{{"123", 6}, {"12", 10}, {"1239", 4}, {"123456789", 3}} {
		rows := map[string]string{}
		greatest, _ := strconv.Atoi(c.digits[len(c.digits)-1:])
		digits := []int{}
		for digit := range strings.SplitSeq(c.digits, "") {
			n, _ := strconv.Atoi(digit)
			digits = append(digits, n)
		}
		// All rows of so many runs, which are said in two digits each.
		runsUpTo(c.most/2, digitsTo(greatest), digits, func(runs []impl.Run) {
			if row := rowBy(runs); isRow(row) {
				rows[saidBy(runs)] = row
			}
		})
		told := map[bool]int{}
		textsOver(c.digits, c.most, func(text string) {
			row, ok := rows[text]
			told[ok]++
			if ok {
				checkUnsaid(t, text, row)
			} else {
				checkNeverSaid(t, text)
			}
		})
		if told[true] < 50 || told[false] < 50 {
			t.Fatalf("%s: of one kind there are too few texts: %v", c.digits, told)
		}
	}
}

// Promise 53: rows told one by one up to MaxSaid times.
func TestSaidAgain(t *testing.T) {
	one := []string{"1", "11", "21", "1211", "111221", "312211", "13112221", "1113213211", "31131211131221", "13211311123113112211", "11131221133112132113212221"}
	checkAgain(t, "1", one...)
	checkAgain(t, "11", append(slices.Clone(one[1:]), "3113112221232112111312211312113211")...)
	checkAgain(t, "", slices.Repeat([]string{""}, 11)...)
	checkAgain(t, "22", slices.Repeat([]string{"22"}, 11)...)
	two := []string{"2", "12", "1112", "3112", "132112", "1113122112", "311311222112", "13211321322112", "1113122113121113222112", "31131122211311123113322112", "132113213221133112132123222112"}
	checkAgain(t, "2", two...)
	for digit := range strings.SplitSeq("3456789", "") {
		var list []string
		for _, said := range two {
			list = append(list, said[:len(said)-1]+digit)
		}
		checkAgain(t, digit, list...)
	}
	checkAgain(t, "333", "333", "33", "23", "1213", "11121113", "31123113", "132112132113", "11131221121113122113", "311311222112311311222113", "1321132132211213211321322113", "11131221131211132221121113122113121113222113")
	checkAgain(t, "999999999", "999999999", "99", "29", "1219", "11121119", "31123119", "132112132119", "11131221121113122119", "311311222112311311222119", "1321132132211213211321322119", "11131221131211132221121113122113121113222119")
}

// Promise 53: rows of which it is told just so many times what is said, from not once up to MaxSaid times.
func TestSaidAgainNotOnceMore(t *testing.T) {
	for row, told := range map[string]int{
		strings.Repeat("12", 30): 0, strings.Repeat("12345", 7): 0, strings.Repeat("12", 15) + "1": 0, strings.Repeat("12", 15): 2, strings.Repeat("1234", 6): 1, strings.Repeat("1234", 5): 2, strings.Repeat("12", 7): 3, "1242423": 4, "123232": 5, "12323": 6, "232": 7, "231": 8, "32": 9, "21": 10, "11": 10, "1": 10,
		"123456789": 4, "987654321": 4, "1234": 7, "13": 10, sixNines() + "777777": 4,
	} {
		sayings := sayingsBy(row)
		if len(sayings) != told+1 {
			t.Fatalf("%q is not told just %d times: %q", row, told, sayings)
		}
		checkAgain(t, row, sayings...)
	}
}

// Promise 53: of rows of the digits 1 to 3, none more than three times at once, only such rows are said; other digits stay.
func TestSaidAgainOfSmallDigits(t *testing.T) {
	small := func(text string) bool {
		return strings.Trim(text, "123") == "" && !strings.Contains(text, "1111") && !strings.Contains(text, "2222") && !strings.Contains(text, "3333")
	}
	rows := 0
	textsOver("123", 7, func(row string) {
		if !small(row) {
			return
		}
		rows++
		for times := range 11 {
			said, _ := impl.SaidAgain(row, times)
			if !small(said) {
				t.Fatalf("%q, %d times: SaidAgain %q", row, times, said)
			}
		}
	})
	if rows < 1000 {
		t.Fatalf("only %d rows", rows)
	}
	textsOver("1456789", 3, func(row string) {
		said, ok := impl.SaidAgain(row, 5)
		for digit := range strings.SplitSeq("456789", "") {
			if ok && strings.Contains(said, digit) != strings.Contains(row, digit) {
				t.Fatalf("%q: SaidAgain %q", row, said)
			}
		}
	})
}

// Promise 53: all rows of a few digits, and rows of a few runs, against what is said of runs taken from the end.
func TestSaidAgainOfRows(t *testing.T) {
	told := map[int]int{}
	check := func(row string) {
		sayings := sayingsBy(row)
		told[len(sayings)-1]++
		checkAgain(t, row, sayings...)
	}
	for _, row := range goodRows() {
		check(row)
	}
	textsOver("123", 6, check)
	textsOver("1479", 4, check)
	runsUpTo(3, []int{1, 4, 9}, []int{1, 2, 9}, func(runs []impl.Run) { check(rowBy(runs)) })
	for times := range 11 {
		if told[times] == 0 {
			t.Fatalf("no row is told just %d times: %v", times, told)
		}
	}
}

// Promise 54: pairs told one by one: rows that meet at once, after some times, and never.
func TestFallsApart(t *testing.T) {
	for _, c := range []struct {
		a    string
		b    string
		many int
	}{
		{"1", "1", 0}, {"2", "2", 0}, {"12", "21", 0}, {"22", "22", 0}, {"1", "11", 0}, {"9", "9", 0}, {"999999999", "9", 0},
		// Of 2 is said 12, and 1 is behind 1; of four times 1 is said 41, and of nine times 1 is said 91.
		{"1", "2", 1}, {"1", "3", 1}, {"4", "1111", 1}, {"9", "111111111", 1}, {"2", "11", 1}, {"3", "2221", 1}, {"1", "23", 1}, {"21", "3", 1},
		// Of 1 is said 11, and of that 21, later 312211; of 2 first 12, 1112 and 3112.
		{"2", "1", 2}, {"32", "1", 2}, {"1", "33", 2}, {"3", "2", 3}, {"3", "4", 3}, {"1", "333", 3}, {"3", "11", 4}, {"3", "1", 5}, {"13", "1", 5}, {"3", "211", 6}, {"3", "112", 7}, {"3", "133", 8}, {"3", "41111", 9},
		// What is said of 22 begins with 2 always; of 2 and of greater ones with that, with 1 and with 3.
		{"1", "22", 11}, {"3", "22", 11}, {"122", "13", 11}, {"2", "13", 11}, {"2", "3", 11}, {"2", "4", 11}, {"4", "1", 11}, {"9", "8", 11}, {"4", "999999999", 11}, {"22", "13", 11},
	} {
		checkFalls(t, c.a, c.b, c.many)
		if by := apartBy(c.a, c.b); by != c.many {
			t.Fatalf("%q and %q: %d, not %d", c.a, c.b, by, c.many)
		}
	}
}

// Promise 54: empty rows never fall apart.
func TestEmptyRowsDoNotFallApart(t *testing.T) {
	for _, row := range goodRows() {
		checkFalls(t, "", row, 0)
		checkFalls(t, row, "", 0)
	}
}

// Promise 54: rows of which one is told fewer times than asked for; both behind each other may be told fewer times yet.
func TestFallsApartAsOftenAsTold(t *testing.T) {
	for row, told := range map[string]int{
		strings.Repeat("12345", 7): 0, strings.Repeat("1234", 6): 1, strings.Repeat("1234", 5): 2, strings.Repeat("12", 7): 3, "1242423": 4, "123232": 5, "12323": 6, "232": 7, "231": 8,
	} {
		if many := len(sayingsBy(row)); many != told+1 {
			t.Fatalf("%q is told %d times", row, many-1)
		}
		last := row[len(row)-1:]
		// Behind the row there is one of which what is said never begins with its last digit.
		behind := map[string]string{"1": "22", "2": "4", "3": "22", "4": "9", "5": "9"}[last]
		checkFalls(t, row, behind, told+1)
		checkFalls(t, "9", row, told+1)
		checkFalls(t, row, last, 0)
	}
	// Each is told, but both, one behind the other, are no row, or nothing is said of both.
	nines, half := sixNines()+"777777", strings.Repeat("12", 15)
	checkFalls(t, nines, sixNines(), 5)
	checkNotAgain(t, nines+sixNines(), 0)
	checkFalls(t, half, "4"+half[:28], 3)
	checkAgain(t, half+"4"+half[:28], half+"4"+half[:28])
	checkFalls(t, half, "4", 3)
	checkAgain(t, half+"4", half+"4")
}

// Promise 54: all pairs of small rows and of the rows of these tests, against first and last digits.
func TestFallsApartOfRows(t *testing.T) {
	numbers := map[int]int{}
	check := func(a string, b string) {
		many := apartBy(a, b)
		numbers[many]++
		checkFalls(t, a, b, many)
	}
	textsOver("1239", 2, func(a string) {
		textsOver("1234", 3, func(b string) { check(a, b) })
	})
	for _, a := range goodRows() {
		for _, b := range goodRows() {
			check(a, b)
		}
	}
	for many := range 12 {
		if numbers[many] == 0 {
			t.Fatalf("no rows fall apart just %d times: %v", many, numbers)
		}
	}
}

// Promise 55: told by hand.
func TestSpokenOf(t *testing.T) {
	for row, want := range map[string][]string{
		"": nil, "1": {"one one"}, "9": {"one nine"}, "22": {"two two"}, "1112": {"three one", "one two"}, "1211": {"one one", "one two", "two one"}, "111111111": {"nine one"}, "999999999": {"nine nine"}, "55555777": {"five five", "three seven"},
		"123456789":           {"one one", "one two", "one three", "one four", "one five", "one six", "one seven", "one eight", "one nine"},
		sixNines() + "777777": {"nine one", "nine two", "nine three", "nine four", "nine five", "nine six", "six seven"}, strings.Repeat("12", 30): slices.Repeat([]string{"one one", "one two"}, 30),
	} {
		checkSpoken(t, tens(), row, want...)
	}
	// In a tongue of the units u and v, with the bases 1, 3 and 6, 4 is x u, 5 x v, 7 to 9 are y u, y v and y x.
	six := impl.Tongue{Units: []string{"u", "v"}, Bases: []int{1, 3, 6}, Names: []string{"x", "y"}}
	checkSpoken(t, six, "4", "u x u")
	checkSpoken(t, six, "5555", "x u x v")
	checkSpoken(t, six, "77777777799999998", "y x y u", "y u y x", "u y v")
	checkSpoken(t, six, "33366666", "x x", "x v y")
}

// Promise 55: tongues in which a digit, or how often it comes, has no name, in any of the runs.
func TestSpokenOfWithoutNames(t *testing.T) {
	// Of the bases 1 and 2 only 1 to 3 have names.
	two := impl.Tongue{Units: []string{"a"}, Bases: []int{1, 2}, Names: []string{"b"}}
	checkSpoken(t, two, "33321", "b a b a", "a b", "a a")
	for _, row := range []string{"4", "9", "1111", "3333", "4444", "14", "41", "1411", "1114", "11112", "21111", "2111131", "123123124", "12312312341", strings.Repeat("3", 9), "12" + strings.Repeat("3", 4) + "12"} {
		checkSpoken(t, two, row)
	}
	// 4 and 9 have no names, but 5 to 8 have.
	checkSpoken(t, gapped(), "5", impl.TextOf(gapped(), 1)+" "+impl.TextOf(gapped(), 5))
	checkSpoken(t, gapped(), strings.Repeat("8", 8), impl.TextOf(gapped(), 8)+" "+impl.TextOf(gapped(), 8))
	for _, row := range []string{"4", "9", "5555", "555555554", "888888888", "5678912", "94", "444444444", "18881111"} {
		checkSpoken(t, gapped(), row)
	}
}

// Promise 55: tongues of one base, with as many units as a digit or how often needs and one fewer.
func TestSpokenOfUnitsAlone(t *testing.T) {
	for units := 1; units <= 20; units++ {
		words := numbered("q", units)
		tongue := unitsAlone(words...)
		checkSpoken(t, tongue, "")
		for times := 1; times <= 9; times++ {
			for digit := 1; digit <= 9; digit++ {
				row := strings.Repeat(strconv.Itoa(digit), times)
				if max(times, digit) > units {
					checkSpoken(t, tongue, row)
					continue
				}
				checkSpoken(t, tongue, row, words[times-1]+" "+words[digit-1])
			}
		}
	}
}

// Promise 55: rows of one run and of two, in all tongues, against names that are put together from the least on.
func TestSpokenOfAllTongues(t *testing.T) {
	kinds := map[bool]int{}
	for _, tongue := range append(seenTongues(), goodTongues()...) {
		texts := textsTo(tongue, 9)
		runsUpTo(2, []int{1, 2, 4, 9}, []int{1, 3, 4, 8, 9}, func(runs []impl.Run) {
			var want []string
			for _, run := range runs {
				if texts[run.Times] == "" || texts[run.Digit] == "" {
					want = nil
					break
				}
				want = append(want, texts[run.Times]+" "+texts[run.Digit])
			}
			checkSpoken(t, tongue, rowBy(runs), want...)
			kinds[len(want) > 0]++
		})
	}
	if kinds[true] < 1000 || kinds[false] < 1000 {
		t.Fatalf("of one kind there are too few rows: %v", kinds)
	}
}

// Promise 55: tongues that are none.
func TestNothingSpokenInWrongTongues(t *testing.T) {
	for _, tongue := range wrongTongues() {
		for _, row := range goodRows() {
			checkSpoken(t, tongue, row)
		}
		checkSpoken(t, tongue, "0")
	}
}

// SpokenOf writes into no slice of a tongue, whether it is valid or not.
func TestSpokenArgumentsStay(t *testing.T) {
	for _, given := range append(seenTongues(), wrongTongues()...) {
		g := guardTongue(given)
		for _, row := range append(goodRows(), "0", "1111111111", strings.Repeat("12", 31)) {
			impl.SpokenOf(g.tongue(), row)
			g.check(t, "SpokenOf")
		}
	}
}

// What is written into runs and texts, and behind them, is found neither in the tongue nor in other answers.
func TestSayingsAreNew(t *testing.T) {
	for _, row := range goodRows() {
		want := runsBy(row)
		first, second := impl.RunsOf(row), impl.RunsOf(row)
		scribble(first, impl.Run{Times: other, Digit: other})
		if !slices.Equal(second, want) || !slices.Equal(impl.RunsOf(row), want) {
			t.Fatalf("%q: runs share memory: %v", row, second)
		}
		for _, given := range seenTongues() {
			g := guardTongue(given)
			texts := impl.SpokenOf(g.tongue(), row)
			want := slices.Clone(texts)
			again := impl.SpokenOf(g.tongue(), row)
			scribble(texts, otherWord)
			g.check(t, "SpokenOf")
			checkSpoken(t, g.tongue(), row, want...)
			scribbleTongue(g.tongue())
			if !slices.Equal(again, want) {
				t.Fatalf("%v, %q: texts share memory: %q", given, row, again)
			}
		}
	}
}

// An answer depends on the arguments alone, whatever was asked before: other rows have fewer runs, or more, and other tongues other words.
func TestSayingKeepsNoState(t *testing.T) {
	for range 3 {
		checkRuns(t, "1112", impl.Run{Times: 3, Digit: 1}, impl.Run{Times: 1, Digit: 2})
		checkNoRow(t, "10")
		checkSaid(t, "1211", "111221")
		checkSaid(t, "2", "12")
		checkNothingSaid(t, strings.Repeat("12", 30))
		checkUnsaid(t, "1211", "21")
		checkNeverSaid(t, "121")
		checkAgain(t, "21", sayingsBy("21")...)
		checkAgain(t, "12323", sayingsBy("12323")...)
		checkFalls(t, "2", "1", 2)
		checkFalls(t, "3", "1", 5)
		checkSpoken(t, tens(), "1112", "three one", "one two")
		checkSpoken(t, unitsAlone("a", "b", "c"), "1112", "c a", "a b")
		checkSpoken(t, impl.Tongue{}, "1112")
		checkSpoken(t, tens(), "")
		checkNotAgain(t, "1", math.MaxInt)
	}
}
