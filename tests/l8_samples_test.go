package tests

import (
	"regexp"
	"slices"
	"strconv"
	"strings"
	"testing"

	"loop.example/restcovers/impl"
)

// greatestScript is the greatest number of bytes of a script.
const greatestScript = 600

// anyCount stands for a rest with any number of numbers from one on.
const anyCount = -1

// wordCounts tells how many numbers the rest of each word has, 0 for words without a rest.
func wordCounts() map[string]int {
	return map[string]int{
		"classes": anyCount, "put": 2, "drop": 1, "split": 2, "move": 1, "least": 0, "sort": 0,
		"show": 0, "period": 0, "share": 0, "times": 0, "holes": 0, "first": 0, "run": 0, "spare": 0,
		"all": 0, "apart": 0, "exact": 0, "natural": 0, "twins": 0,
		"line": 3, "squares": 2, "power": 3, "order": 2, "root": 1, "units": 1, "tile": anyCount, "step": anyCount,
	}
}

// wordsWith are all words for which a condition on the number of their numbers holds, in order.
func wordsWith(holds func(count int) bool) []string {
	var list []string
	for word, count := range wordCounts() {
		if holds(count) {
			list = append(list, word)
		}
	}
	slices.Sort(list)
	return list
}

// wordsWithRest are told to have numbers behind a space.
func wordsWithRest() []string {
	return wordsWith(func(count int) bool { return count != 0 })
}

// wordsAlone are told to have no rest.
func wordsAlone() []string {
	return wordsWith(func(count int) bool { return count == 0 })
}

// noNumberRests are rests that are not told by numbers with one space between, each by another reason.
func noNumberRests() []string {
	return []string{
		"", " ", "  ", " 1", "1 ", "1  2", "1 2 ", " 1 2", "1 2  3", "1 2 3 ",
		"x", "1x", "x1", "1 x", "x 1", "1 2 x", "0 2 x 3", "zzz",
		"+1", "+0", "1 +1", "--1", "-", "- 1", "1 -", "1-", "1-1", "-1-", "1 --2", "- ",
		"1\t2", "1\t", "\t1", "1\r", "1 2\r", "1\v", "1,2", "1, 2", "1:2", "1;2", "1.0", "1.", ".1", "1/2",
		"0x1", "0b1", "0o7", "1_0", "1e2", "1E1", "1_", "_1", "\"1\"", "(1)",
		"12345", "00001", "00000", "-12345", "-00001", "1 12345", "00001 1", "1 2 00003", "1000000", "9223372036854775808", "99999999999999999999", "-99999999999999999999", strings.Repeat("0", 500),
		"\x00", "1\x00", "\x001", "\xff", "1\xff", "\u0661", "1 \u0662", "\u00b2", "\uff11", "\u22121", "\u00a01", "1\u00a02", "/", "/1", "1/", "1 :",
	}
}

// numberTexts are texts of one number each, with the number.
func numberTexts() map[string]int {
	return map[string]int{
		"0": 0, "00": 0, "000": 0, "0000": 0, "-0": 0, "-00": 0, "-0000": 0, "1": 1, "01": 1, "001": 1, "0001": 1, "-1": -1, "-01": -1, "-0001": -1,
		"7": 7, "9": 9, "08": 8, "-9": -9, "10": 10, "0010": 10, "12": 12, "99": 99, "100": 100, "0100": 100, "-100": -100, "999": 999, "-999": -999, "1000": 1000, "-1000": -1000, "1001": 1001, "2345": 2345, "6789": 6789, "9999": 9999, "-9999": -9999,
	}
}

// rowOf writes numbers with one space between.
func rowOf(list []int) string {
	texts := []string{}
	for _, x := range list {
		texts = append(texts, strconv.Itoa(x))
	}
	return strings.Join(texts, " ")
}

// telling is the line that makes a list of classes the system.
func telling(s []class) string {
	line := "classes"
	for _, c := range s {
		line += " " + rowOf([]int{c.Rest, c.Mod})
	}
	return line
}

// shownOf is the answer that shows a list of classes.
func shownOf(s []class) string {
	texts := []string{}
	for _, c := range s {
		texts = append(texts, strconv.Itoa(c.Rest)+":"+strconv.Itoa(c.Mod))
	}
	return strings.Join(texts, " ")
}

// listAnswer is the answer that is a list of numbers.
func listAnswer(list []int) string {
	if len(list) == 0 {
		return "-"
	}
	return rowOf(list)
}

// numberAnswer is the answer that is a number, if there is one.
func numberAnswer(x int, ok bool) string {
	if !ok {
		return "no"
	}
	return strconv.Itoa(x)
}

// holdsAnswer is the answer to a question.
func holdsAnswer(holds bool) string {
	if holds {
		return "yes"
	}
	return "not"
}

// isModulus tells the range of the moduli.
func isModulus(m int) bool {
	return 1 <= m && m <= 1000
}

// lineBySearch runs one line by the document's own words, with the searches of the other chapters, and returns the answer and the system behind it.
func lineBySearch(s []class, line string) (string, []class) {
	word, rest, spaced := strings.Cut(line, " ")
	count, known := wordCounts()[word]
	if !known || spaced != (count != 0) {
		return "what", s
	}
	var list []int
	if spaced {
		if !regexp.MustCompile(`\A-?[0-9]{1,4}( -?[0-9]{1,4})*\z`).MatchString(rest) {
			return "no", s
		}
		for _, text := range strings.Split(rest, " ") {
			x, _ := strconv.Atoi(text)
			list = append(list, x)
		}
	}
	if count != anyCount && count != len(list) {
		return "no", s
	}
	if changed, ok := changeBySearch(s, word, list); ok {
		if !isSystem(changed) {
			return "no", s
		}
		return "ok", changed
	}
	if answer, ok := systemBySearch(s, word); ok {
		return answer, s
	}
	if word == "tile" || word == "step" {
		return tileBySearch(word, list[0], list[1:]), s
	}
	return congruenceBySearch(word, list), s
}

// changeBySearch returns what a word makes of a system, no list if it fails, and tells whether the word is to change it.
func changeBySearch(s []class, word string, list []int) ([]class, bool) {
	switch word {
	case "classes":
		if len(list)%2 != 0 {
			return nil, true
		}
		return system(list...), true
	case "put":
		return append(slices.Clone(s), pair(list[0], list[1])), true
	case "drop":
		if list[0] < 0 || list[0] >= len(s) {
			return nil, true
		}
		return slices.Delete(slices.Clone(s), list[0], list[0]+1), true
	case "split":
		if !canSplit(s, list[0], list[1]) {
			return nil, true
		}
		return splitBySearch(s, list[0], list[1]), true
	case "move":
		var moved []class
		for _, c := range s {
			moved = append(moved, pair(restBySearch(c.Rest+list[0], c.Mod), c.Mod))
		}
		return moved, true
	case "least":
		return leastBySearch(s), true
	case "sort":
		return sortedBySearch(s), true
	}
	return nil, false
}

// systemBySearch answers what a word asks of a system, and tells whether it asks something of it.
func systemBySearch(s []class, word string) (string, bool) {
	p := periodBySearch(s)
	var times []int
	for x := range p {
		times = append(times, timesAt(s, x))
	}
	switch word {
	case "show":
		return shownOf(s), true
	case "period":
		return numberAnswer(p, true), true
	case "share":
		return numberAnswer(sum(times), true), true
	case "times":
		return listAnswer(times), true
	case "holes":
		return listAnswer(holesBySearch(s, 0, p)), true
	case "first":
		return numberAnswer(leastHole(s), leastHole(s) >= 0), true
	case "run":
		return numberAnswer(runBySearch(s), true), true
	case "spare":
		return listAnswer(spareBySearch(s)), true
	case "all":
		return holdsAnswer(allBySearch(s)), true
	case "apart":
		return holdsAnswer(apartBySearch(s)), true
	case "exact":
		return holdsAnswer(allBySearch(s) && apartBySearch(s)), true
	case "natural":
		return holdsAnswer(naturalBySearch(s)), true
	case "twins":
		return numberAnswer(twinsBySearch(s), true), true
	}
	return "", false
}

// twinsBySearch counts the classes none of which has a lesser modulus than another one.
func twinsBySearch(s []class) int {
	n, greatest := 0, 0
	for _, c := range s {
		if c.Mod > greatest {
			n, greatest = 0, c.Mod
		}
		if c.Mod == greatest {
			n++
		}
	}
	return n
}

func tileBySearch(word string, n int, a []int) string {
	if !isTile(n, a) {
		return "no"
	}
	if word == "step" {
		return numberAnswer(stepBySearch(n, a), true)
	}
	if seconds := secondsByCover(n, a); len(seconds) > 0 {
		return listAnswer(seconds[0])
	}
	return "no"
}

// congruenceBySearch answers the words of chapter 6. Their other numbers are in their ranges, as they have at most four digits.
func congruenceBySearch(word string, list []int) string {
	a, m := list[0], list[len(list)-1]
	if !isModulus(m) {
		return "no"
	}
	switch word {
	case "line":
		c, ok := allBySolving([][]int{list})
		if !ok {
			return "no"
		}
		return shownOf([]class{c})
	case "squares":
		return listAnswer(squaresBySearch(a, m))
	case "power":
		if list[1] < 0 {
			return "no"
		}
		return numberAnswer(powerBySteps(a, list[1], m), true)
	case "order":
		return numberAnswer(orderBySteps(a, m))
	case "root":
		return numberAnswer(rootBySearch(m))
	default:
		return numberAnswer(unitsByDivisors(m), true)
	}
}

// rootBySearch looks for the least number whose order is the number of units.
func rootBySearch(m int) (int, bool) {
	units := unitsByDivisors(m)
	for a := 1; a <= m; a++ {
		if k, ok := orderBySteps(a, m); ok && k == units {
			return a, true
		}
	}
	return 0, false
}

// scriptBySearch runs a script that is not too long.
func scriptBySearch(text string) string {
	s := system(0, 1)
	out := ""
	for _, line := range strings.SplitAfter(text, "\n") {
		whole, ended := strings.CutSuffix(line, "\n")
		if !ended {
			continue
		}
		var answer string
		answer, s = lineBySearch(s, whole)
		out += answer + "\n"
	}
	return out + "classes " + strconv.Itoa(len(s)) + "\n"
}

// lineMaker makes lines by a rule without chance.
type lineMaker struct {
	seed int
}

func (l *lineMaker) next(end int) int {
	l.seed = (l.seed*1103 + 12345) % 1000003
	return l.seed / 7 % end
}

// number is mostly small, so that most lines do not fail.
func (l *lineMaker) number() int {
	switch l.next(12) {
	case 0:
		return -l.next(40)
	case 1:
		return l.next(10000)
	default:
		return l.next(9)
	}
}

// classNumbers are a rest and a modulus, mostly those of a class.
func (l *lineMaker) classNumbers() []int {
	m := []int{1, 2, 2, 3, 3, 4, 4, 6, 6, 8, 12, 12, 24, 5, 1000}[l.next(15)]
	return []int{l.next(m + l.next(20)/19), m}
}

func (l *lineMaker) tileNumbers() []int {
	n := []int{2, 3, 4, 6, 8, 9, 12, 12, 16, 24, 25}[l.next(11)]
	list := []int{n}
	for x := l.next(2); x < n+n/25; x += 1 + l.next(4) {
		list = append(list, x)
		if l.next(3) == 0 {
			break
		}
	}
	return list
}

// numbers are those of a word, now and then one too few or too many.
func (l *lineMaker) numbers(word string, count int) []int {
	var list []int
	switch word {
	case "classes":
		for range 1 + l.next(6) {
			list = append(list, l.classNumbers()...)
		}
	case "put":
		list = l.classNumbers()
	case "tile", "step":
		list = l.tileNumbers()
	default:
		for range count {
			list = append(list, l.number())
		}
	}
	switch l.next(30) {
	case 0:
		list = append(list, l.number())
	case 1:
		list = list[1:]
	}
	return list
}

// line has a word that is told, and now and then a rest that is not.
func (l *lineMaker) line() string {
	words := wordsWith(func(count int) bool { return true })
	word := append(words, "put", "put", "split", "split", "classes", "classes", "drop", "show")[l.next(len(words)+8)]
	count := wordCounts()[word]
	line := word
	if count != 0 {
		line += " " + rowOf(l.numbers(word, count))
	}
	switch l.next(60) {
	case 0:
		line = word
	case 1:
		line = word + " "
	case 2:
		line = word + " " + noNumberRests()[l.next(60)]
	case 3:
		line = " " + line
	case 4:
		line += " "
	}
	return line
}

// script has complete lines and at most so many bytes, mostly about as many.
func (l *lineMaker) script(most int) string {
	text := ""
	for {
		line := l.line() + "\n"
		if len(text)+len(line) > most {
			return text
		}
		text += line
	}
}

// madeScripts are scripts of complete lines, with at most so many bytes each.
func madeScripts(n int, most int) []string {
	l := &lineMaker{seed: 1}
	var list []string
	for i := range n {
		list = append(list, l.script(most*(1+i%4)/4))
	}
	return list
}

// scriptsWithRoom are scripts of complete lines that may have 10 bytes more.
func scriptsWithRoom() []string {
	list := []string{
		"", "\n", "\n\n", " \n", "x\n", "show\n", "show \n", "zzz\n", "put x\n", "put 1 2\n", "drop 0\n", "classes 999 1000\n", "classes 0 2 1 2\ndrop 0\n", "put\n", "put \n",
		"split 0 8\n", "split 0 8\nput 0 1\n", "split 0 2\nmove 1\nsort\nleast\nshow\n", "\r\n", "show\r\n", "\x00\n", "\xff\xfe\n", "\u00e9\n", "too long\n",
		strings.Repeat("\n", 590), strings.Repeat("x", 589) + "\n", strings.Repeat("show\n", 118), strings.Repeat("put 0 1\n", 73), strings.Repeat("times\n", 98), "classes 0 1000\n" + strings.Repeat("holes\n", 95),
		"classes" + strings.Repeat(" 0 1", 8) + "\n", "classes" + strings.Repeat(" 0 1", 9) + "\n", "classes" + strings.Repeat(" 0 1", 145) + "\n",
	}
	return append(list, madeScripts(120, greatestScript-10)...)
}

// runLines runs complete lines and returns their answers and the last line of the output.
func runLines(t *testing.T, lines ...string) ([]string, string) {
	t.Helper()
	out := impl.Execute(strings.Join(lines, "\n") + "\n")
	whole, ended := strings.CutSuffix(out, "\n")
	answers := strings.Split(whole, "\n")
	if !ended || len(answers) != len(lines)+1 {
		t.Fatalf("Execute of %q returned %q", lines, out)
	}
	return answers[:len(lines)], answers[len(lines)]
}

// lastLineApart parts an output ahead of its last line.
func lastLineApart(t *testing.T, out string) (string, string) {
	t.Helper()
	if !strings.HasSuffix(out, "\n") {
		t.Fatalf("an output has no newline at its end: %q", out)
	}
	i := strings.LastIndex(out[:len(out)-1], "\n") + 1
	return out[:i], out[i:]
}
