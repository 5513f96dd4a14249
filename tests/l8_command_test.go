package tests

import (
	"slices"
	"strconv"
	"strings"
	"testing"

	"loop.example/restcovers/impl"
)

func TestMaxScript(t *testing.T) {
	if impl.MaxScript != greatestScript {
		t.Errorf("MaxScript is %d", impl.MaxScript)
	}
}

// lastLines have no newline at their end.
func lastLines() []string {
	return []string{"", " ", "show", "x", "zzz", "put 0 2", "put x", "classes 0 2 1 2", "drop 0", "split 0 2", "\r", "\x00", "\xff", "\u00e9"}
}

// TestP64 checks promise 64.
func TestP64(t *testing.T) {
	if out := impl.Execute(""); out != "classes 1\n" {
		t.Errorf("Execute of an empty script returned %q", out)
	}
	for _, script := range append(scriptsWithRoom(), madeScripts(40, greatestScript)...) {
		out := impl.Execute(script)
		if out == "" || !strings.HasSuffix(out, "\n") || strings.Count(out, "\n") != strings.Count(script, "\n")+1 {
			t.Errorf("Execute(%q) returned %q", script, out)
		}
		for _, last := range append(lastLines(), strings.Repeat("y", greatestScript-len(script))) {
			if len(script)+len(last) > greatestScript {
				continue
			}
			if with := impl.Execute(script + last); with != out {
				t.Errorf("Execute(%q) with %q behind it returned %q, and without it %q", script, last, with, out)
			}
		}
	}
}

func TestP64LastLine(t *testing.T) {
	for _, last := range lastLines() {
		if out := impl.Execute(last); out != "classes 1\n" {
			t.Errorf("Execute(%q) returned %q", last, out)
		}
		if out := impl.Execute("classes 0 2 1 2 0 3\n" + last); out != "ok\nclasses 3\n" {
			t.Errorf("Execute with %q behind a line returned %q", last, out)
		}
	}
}

func TestP64TooLong(t *testing.T) {
	for _, e := range []struct{ script, out string }{
		// Just MaxScript bytes.
		{strings.Repeat("\n", 600), strings.Repeat("what\n", 600) + "classes 1\n"}, {strings.Repeat("x", 600), "classes 1\n"}, {strings.Repeat("x", 599) + "\n", "what\nclasses 1\n"}, {"\n" + strings.Repeat("x", 599), "what\nclasses 1\n"},
		{strings.Repeat("show\n", 120), strings.Repeat("0:1\n", 120) + "classes 1\n"}, {"put 0 2\n" + strings.Repeat(" ", 592), "ok\nclasses 2\n"}, {strings.Repeat("\u00e9", 300), "classes 1\n"}, {strings.Repeat("\u00e9", 299) + " \n", "what\nclasses 1\n"}, {strings.Repeat("\x00", 600), "classes 1\n"},
		{"power " + strings.Repeat("0", 593) + "\n", "no\nclasses 1\n"}, {"classes" + strings.Repeat(" 0 1", 148) + "\n", "no\nclasses 1\n"},
		// 1 byte more, and many.
		{strings.Repeat("\n", 601), "too long\n"}, {strings.Repeat("x", 601), "too long\n"}, {strings.Repeat("x", 600) + "\n", "too long\n"}, {"\n" + strings.Repeat("x", 600), "too long\n"}, {strings.Repeat("show\n", 120) + " ", "too long\n"}, {"put 0 2\n" + strings.Repeat(" ", 593), "too long\n"},
		{strings.Repeat("\u00e9", 301), "too long\n"}, {strings.Repeat("\u00e9", 300) + "\n", "too long\n"}, {strings.Repeat("\x00", 601), "too long\n"}, {strings.Repeat("show\n", 1000), "too long\n"}, {strings.Repeat("x", 100000), "too long\n"},
	} {
		if out := impl.Execute(e.script); out != e.out {
			t.Errorf("Execute(%q) returned %q", e.script, out)
		}
	}
}

// TestP64KeepsNothing runs scripts between others that change the system.
func TestP64KeepsNothing(t *testing.T) {
	scripts := scriptsWithRoom()
	first := make([]string, len(scripts))
	for i, script := range scripts {
		first[i] = impl.Execute(script)
	}
	for i, script := range scripts {
		impl.Execute("classes 0 2 1 2 0 3\nsplit 0 2\nmove 5\n")
		if out := impl.Execute(script); out != first[i] {
			t.Errorf("Execute(%q) returned %q, and then %q", script, first[i], out)
		}
	}
	if out := impl.Execute("show\n"); out != "0:1\nclasses 1\n" {
		t.Errorf("Execute begins with another system: %q", out)
	}
}

// TestP64AnyBytes runs scripts of parts of lines in any order.
func TestP64AnyBytes(t *testing.T) {
	l := &lineMaker{seed: 5}
	parts := []string{" ", "\n", "-", "0", "1", "2", "9", "9999", "1000", "\x00", "\xff", "x", " 0", " 1", " -1", "\n", "classes ", "put ", "drop ", "split ", "move ", "line ", "squares ", "power ", "order ", "root ", "units ", "tile ", "step ", "least\n", "sort\n", "times\n", "show\n", "run\n"}
	for range 3000 {
		script := ""
		for range 1 + l.next(40) {
			script += parts[l.next(len(parts))]
		}
		if len(script) > greatestScript {
			continue
		}
		if out, want := impl.Execute(script), scriptBySearch(script); out != want {
			t.Errorf("Execute(%q) returned %q and not %q", script, out, want)
		}
	}
}

// TestP65 checks promise 65.
func TestP65(t *testing.T) {
	for _, script := range scriptsWithRoom() {
		head, last := lastLineApart(t, impl.Execute(script))
		if out := impl.Execute(script + "zzz\nput x\n"); out != head+"what\nno\n"+last {
			t.Errorf("Execute(%q) returned %q, and with two lines more %q", script, head+last, out)
		}
	}
}

// checkAnswer runs a line between two that show the system, and checks that it has an answer and changes nothing.
func checkAnswer(t *testing.T, s []class, line string, want string) {
	t.Helper()
	answers, last := runLines(t, telling(s), "show", line, "show")
	if answers[0] != "ok" || answers[1] != shownOf(s) {
		t.Errorf("the system %v is shown as %q, %q", s, answers[0], answers[1])
	}
	if answers[2] != want {
		t.Errorf("the answer to %q for %v is %q and not %q", line, s, answers[2], want)
	}
	if answers[3] != answers[1] || last != "classes "+strconv.Itoa(len(s)) {
		t.Errorf("the line %q makes of %v the system %q, with %q", line, s, answers[3], last)
	}
}

// commandSystems are few and of several kinds: with the most classes, with the greatest period, exact ones and others.
func commandSystems() [][]class {
	return [][]class{
		system(0, 1), system(0, 2, 1, 2, 0, 3), system(5, 6, 0, 2), residues(0, 8, 8), system(999, 1000, 0, 1000), manyTimes(8, pair(2, 3)), system(0, 2, 0, 3, 1, 4, 5, 6, 7, 12),
	}
}

// TestP65Others checks lines that are none of the told ones.
func TestP65Others(t *testing.T) {
	lines := []string{
		"", " ", "  ", "zzz", "zzz ", "zzz 1", "x", "1", "-1", "0 2", " 0 2", "ok", "no", "what", "-", "too long", "classes1 0 2", "clas 0 2", "Classes 0 2", "PUT 0 2", "puts 0 2", "put\t0 2", "put\u00a00 2", "put,0 2", "put:0 2",
		"Show", "SHOW", "sho", "shows", "show\r", "show\t", "\tshow", "\x00show", "show\x00", "\xff", "periods", "hole", "time", "has 1", "meet 0 2", "fill", "worst", "moduli", "count 3", "same 0 2", "back 2 7", "scaled 6 0 1 5", "moved 1",
	}
	for _, word := range wordsAlone() {
		for _, rest := range append(noNumberRests(), "0", "1", "-1", "0 2", "0 1 2", "0 2 1 2", "show") {
			lines = append(lines, word+" "+rest)
		}
		lines = append(lines, " "+word, "  "+word, word+word, word+"1", word+"\r", strings.ToUpper(word))
	}
	for _, word := range wordsWithRest() {
		lines = append(lines, word, " "+word, " "+word+" 0 1", " "+word+" ", word+"1", word+"-1 2", word+"\t1 2", word+"\r", word+word+" 1 2", strings.ToUpper(word)+" 1 2")
	}
	for _, line := range lines {
		checkAnswer(t, system(0, 2, 1, 4), line, "what")
	}
}

// TestP65Rests checks rests that are not told by numbers.
func TestP65Rests(t *testing.T) {
	for _, word := range wordsWithRest() {
		for _, rest := range noNumberRests() {
			checkAnswer(t, system(0, 2, 1, 4), word+" "+rest, "no")
		}
	}
}

// TestP65Counts checks rests of which each number is told, and that have more of them or fewer.
func TestP65Counts(t *testing.T) {
	rests := map[string][]int{"put": {0, 4}, "drop": {0}, "split": {0, 2}, "move": {1}, "line": {2, 4, 6}, "squares": {2, 7}, "power": {2, 3, 7}, "order": {2, 7}, "root": {7}, "units": {7}}
	for _, word := range wordsWith(func(count int) bool { return count > 0 }) {
		list := rests[word]
		if answers, _ := runLines(t, "classes 0 2 1 2", word+" "+rowOf(list)); answers[1] == "no" || answers[1] == "what" {
			t.Errorf("the answer to %q with %v is %q", word, list, answers[1])
		}
		for n := 1; n <= 8; n++ {
			if n != len(list) {
				checkAnswer(t, system(0, 2, 1, 2), word+" "+rowOf(slices.Repeat(list, 8)[:n]), "no")
			}
		}
	}
	for n := 1; n <= 31; n += 2 {
		checkAnswer(t, system(0, 2, 1, 2), "classes "+rowOf(slices.Repeat([]int{0, 1}, 20)[:n]), "no")
	}
}

// TestP65Unchanged checks what fails by the functions of the other chapters, first for each system.
func TestP65Unchanged(t *testing.T) {
	lines := []string{
		// No classes, too many, and a period that is too great.
		"classes 2 2", "classes -1 2", "classes 0 0", "classes 1 -2", "classes 0 1001", "classes 1000 1000", "classes 0 9999", "classes 0 2 2 2", "classes 2 2 0 2", "classes 0 7 0 143", "classes 0 999 0 1000", "classes 0 2 0 2 0 2 0 2 0 2 0 2 0 2 0 2 0 2", telling(residues(0, 9, 9)), telling(manyTimes(100, pair(0, 1))),
		"put 2 2", "put -1 2", "put 0 0", "put 0 1001", "put 5 -5", "put 9999 9999",
		"drop -1", "drop 8", "drop 9999", "drop -9999", "split 0 0", "split 0 -1", "split 0 13", "split 0 9999", "split -1 2", "split 8 2", "split 9999 2", "split -9999 1", "split 0 12", "split 0 9",
		"line 2 1 4", "line 0 1 5", "line 1 1 0", "line 1 1 -1", "line 1 1 1001", "squares 1 0", "squares 1 -7", "squares 1 1001", "power 2 -1 7", "power 2 1 0", "power 2 1 1001", "power 2 -9999 1", "order 2 4", "order 0 2", "order 2 0", "order 2 -7", "order 2 1001",
		"root 0", "root -7", "root 1001", "root 8", "root 1000", "units 0", "units -1", "units 1001", "units 9999",
		"tile 4", "tile 5 0 1", "tile 0 0", "tile 25 0", "tile -4 0", "tile 4 1 0", "tile 4 0 0", "tile 4 4", "tile 4 -1 0", "tile 9999 0", "tile 6 0 1 3", "step 4", "step 0 0", "step 25 0", "step -1 0", "step 4 1 0", "step 4 0 0", "step 4 0 4", "step 4 -1", "step 9999 9998",
	}
	for _, s := range commandSystems() {
		for _, line := range lines {
			checkAnswer(t, s, line, "no")
		}
	}
	// What fails by the system alone.
	checkAnswer(t, system(0, 1), "drop 0", "no")
	checkAnswer(t, system(999, 1000), "drop 0", "no")
	checkAnswer(t, system(0, 1), "drop 1", "no")
	checkAnswer(t, residues(0, 8, 8), "put 0 8", "no")
	checkAnswer(t, residues(0, 7, 8), "split 0 3", "no")
	checkAnswer(t, system(0, 2), "put 0 997", "no")
	checkAnswer(t, system(0, 8), "put 0 127", "no")
	checkAnswer(t, system(0, 999), "put 0 1000", "no")
	checkAnswer(t, system(0, 501), "split 0 2", "no")
	checkAnswer(t, system(0, 8, 0, 125), "split 1 3", "no")
	checkAnswer(t, system(0, 1), "first", "no")
	checkAnswer(t, system(0, 2, 1, 2), "first", "no")
}

// TestP66 checks promise 66.
func TestP66(t *testing.T) {
	for _, script := range scriptsWithRoom() {
		head, last := lastLineApart(t, impl.Execute(script))
		out := impl.Execute(script + "show\nshow\n")
		middle, ok := strings.CutPrefix(out, head)
		middle, okToo := strings.CutSuffix(middle, last)
		lines := strings.SplitAfter(middle, "\n")
		if !ok || !okToo || len(lines) != 3 || lines[0] != lines[1] || lines[2] != "" || len(lines[0]) < 4 {
			t.Errorf("Execute(%q) returned %q, and with two lines more %q", script, head+last, out)
		}
	}
}

// TestP66Shows shows each system behind the line that tells it, also one with leading zeros.
func TestP66Shows(t *testing.T) {
	for _, s := range someSystems() {
		answers, last := runLines(t, telling(s), "show")
		if answers[0] != "ok" || answers[1] != shownOf(s) || last != "classes "+strconv.Itoa(len(s)) {
			t.Errorf("the answers for %v are %q, and then %q", s, answers, last)
		}
	}
	answers, last := runLines(t, "classes 0001 0002 -0 3 00 4", "show", "put 05 0006", "show", "drop 0001", "show", "split 00 02", "show", "move -0000", "show", "move -0001", "show")
	if want := []string{"ok", "1:2 0:3 0:4", "ok", "1:2 0:3 0:4 5:6", "ok", "1:2 0:4 5:6", "ok", "1:4 3:4 0:4 5:6", "ok", "1:4 3:4 0:4 5:6", "ok", "0:4 2:4 3:4 4:6"}; !slices.Equal(answers, want) || last != "classes 4" {
		t.Errorf("the answers are %q, and then %q", answers, last)
	}
}

// TestP66Changes checks the lines that change the system.
func TestP66Changes(t *testing.T) {
	for _, e := range []struct {
		s    []class
		line string
		want []class
	}{
		{system(0, 1), "classes 0 2 0 3", system(0, 2, 0, 3)}, {system(0, 2, 0, 3), "classes 0 1", system(0, 1)}, {system(0, 1), "classes 999 1000", system(999, 1000)}, {system(0, 1), "classes 2 3 2 3", system(2, 3, 2, 3)}, {system(0, 1), "classes 7 8 0 8 6 8 1 8 5 8 2 8 4 8 3 8", system(7, 8, 0, 8, 6, 8, 1, 8, 5, 8, 2, 8, 4, 8, 3, 8)},
		{system(0, 1), "put 0 1", system(0, 1, 0, 1)}, {system(0, 2), "put 1 3", system(0, 2, 1, 3)}, {system(5, 6, 0, 2), "put 3 4", system(5, 6, 0, 2, 3, 4)}, {residues(0, 7, 8), "put 7 8", residues(0, 8, 8)}, {system(0, 8), "put 124 125", system(0, 8, 124, 125)},
		{system(0, 2, 0, 3, 1, 4), "drop 0", system(0, 3, 1, 4)}, {system(0, 2, 0, 3, 1, 4), "drop 1", system(0, 2, 1, 4)}, {system(0, 2, 0, 3, 1, 4), "drop 2", system(0, 2, 0, 3)}, {system(0, 2, 1, 2), "drop 0", system(1, 2)}, {residues(0, 8, 8), "drop 7", residues(0, 7, 8)},
		{system(0, 1), "split 0 2", system(0, 2, 1, 2)}, {system(0, 1), "split 0 1", system(0, 1)}, {system(0, 1), "split 0 8", residues(0, 8, 8)}, {system(0, 2, 1, 2), "split 0 3", system(0, 6, 2, 6, 4, 6, 1, 2)}, {system(0, 2, 1, 2), "split 1 2", system(0, 2, 1, 4, 3, 4)}, {system(0, 500), "split 0 2", system(0, 1000, 500, 1000)},
		{system(0, 1), "move 5", system(0, 1)}, {system(0, 2, 5, 6), "move 1", system(1, 2, 0, 6)}, {system(0, 2, 5, 6), "move -1", system(1, 2, 4, 6)}, {system(0, 2, 5, 6), "move 0", system(0, 2, 5, 6)}, {system(0, 1000), "move 9999", system(999, 1000)}, {system(0, 1000), "move -9999", system(1, 1000)},
		{system(0, 2, 1, 2, 0, 3), "least", system(0, 2, 1, 2)}, {system(0, 1, 0, 2, 1, 2), "least", system(0, 1)}, {manyTimes(8, pair(2, 3)), "least", system(2, 3)}, {system(0, 2, 0, 3), "least", system(0, 2, 0, 3)}, {system(0, 3, 1, 6, 4, 6, 1, 3), "least", system(0, 3, 1, 6, 4, 6)},
		{system(3, 4, 0, 2, 1, 4), "sort", system(0, 2, 1, 4, 3, 4)}, {system(0, 2, 0, 1), "sort", system(0, 1, 0, 2)}, {system(2, 3, 1, 2, 2, 3, 0, 3), "sort", system(1, 2, 0, 3, 2, 3, 2, 3)}, {system(0, 1), "sort", system(0, 1)},
	} {
		answers, last := runLines(t, telling(e.s), e.line, "show")
		if answers[1] != "ok" || answers[2] != shownOf(e.want) || last != "classes "+strconv.Itoa(len(e.want)) {
			t.Errorf("the answers to %q for %v are %q, and then %q", e.line, e.s, answers[1:], last)
		}
	}
}

// TestP66Asks checks the lines that ask something of the system.
func TestP66Asks(t *testing.T) {
	words := []string{"period", "share", "holes", "first", "run", "spare", "all", "apart", "exact", "natural", "twins"}
	for _, e := range []struct {
		s       []class
		answers []string
	}{
		{system(0, 1), []string{"1", "1", "-", "no", "-1", "-", "yes", "yes", "yes", "yes", "1"}},
		{system(0, 2), []string{"2", "1", "1", "1", "1", "-", "not", "yes", "not", "not", "1"}},
		{system(0, 2, 0, 3), []string{"6", "5", "1 5", "1", "3", "-", "not", "not", "not", "not", "1"}},
		{system(0, 2, 1, 2), []string{"2", "2", "-", "no", "-1", "-", "yes", "yes", "yes", "yes", "2"}},
		{system(0, 2, 1, 2, 0, 3), []string{"6", "8", "-", "no", "-1", "2", "yes", "not", "not", "not", "1"}},
		{system(0, 1, 0, 2, 1, 2), []string{"2", "4", "-", "no", "-1", "0 1 2", "yes", "not", "not", "not", "2"}},
		{system(0, 4, 0, 4), []string{"4", "2", "1 2 3", "1", "1", "0 1", "not", "not", "not", "not", "2"}},
		{system(3, 4, 0, 2, 1, 4), []string{"4", "4", "-", "no", "-1", "-", "yes", "yes", "yes", "yes", "2"}},
		{system(0, 2, 1, 4), []string{"4", "3", "3", "3", "3", "-", "not", "yes", "not", "not", "1"}},
		{system(1, 3, 2, 3), []string{"3", "2", "0", "0", "2", "-", "not", "yes", "not", "not", "2"}},
		{residues(0, 8, 8), []string{"8", "8", "-", "no", "-1", "-", "yes", "yes", "yes", "yes", "8"}},
		{residues(0, 7, 8), []string{"8", "7", "7", "7", "7", "-", "not", "yes", "not", "not", "7"}},
		{system(5, 6, 0, 2), []string{"6", "4", "1 3", "1", "3", "-", "not", "yes", "not", "not", "1"}},
	} {
		answers, last := runLines(t, append([]string{telling(e.s)}, words...)...)
		for i, word := range words {
			if answers[i+1] != e.answers[i] {
				t.Errorf("the answer to %q for %v is %q", word, e.s, answers[i+1])
			}
		}
		if last != "classes "+strconv.Itoa(len(e.s)) {
			t.Errorf("the output for %v ends with %q", e.s, last)
		}
	}
	for _, e := range []struct {
		s     []class
		times string
	}{
		{system(0, 1), "1"}, {manyTimes(8, pair(0, 1)), "8"}, {system(0, 2), "1 0"}, {system(0, 2, 0, 3), "2 0 1 1 1 0"}, {residues(1, 8, 8), "0 1 1 1 1 1 1 1"}, {system(999, 1000), strings.Repeat("0 ", 999) + "1"},
	} {
		checkAnswer(t, e.s, "times", e.times)
	}
	checkAnswer(t, system(0, 1000), "holes", rowOf(places(1, 1000, 1)))
}

// TestP66Congruences checks the lines that ask nothing of the system.
func TestP66Congruences(t *testing.T) {
	for _, e := range []struct{ line, answer string }{
		{"line 2 4 6", "2:3"}, {"line 0 0 5", "0:1"}, {"line -3 6 9", "1:3"}, {"line 5 3 1", "0:1"}, {"line 1 -1 1000", "999:1000"}, {"line 9999 -9999 1000", "999:1000"}, {"line 1 0 7", "0:7"},
		{"squares 2 7", "3 4"}, {"squares 3 7", "-"}, {"squares 0 1", "0"}, {"squares -1 5", "2 3"}, {"squares 1 8", "1 3 5 7"}, {"squares -9999 1000", "1 249 251 499 501 749 751 999"},
		{"power 2 10 7", "2"}, {"power 0 0 5", "1"}, {"power 5 0 1", "0"}, {"power -2 3 7", "6"}, {"power 2 9999 1000", "688"}, {"power 0 9999 7", "0"}, {"power 3 1 1000", "3"},
		{"order 2 7", "3"}, {"order 7 1", "1"}, {"order -1 5", "2"}, {"order 1 1000", "1"}, {"order 3 1000", "100"},
		{"root 7", "3"}, {"root 1", "1"}, {"root 2", "1"}, {"root 4", "3"}, {"root 9", "2"}, {"root 997", "7"},
		{"tile 4 0 1", "0 2"}, {"tile 8 0 2", "0 1 4 5"}, {"tile 1 0", "0"}, {"tile 6 0 3", "0 1 2"}, {"tile 6 2 5", "0 1 2"}, {"tile 24 " + rowOf(places(0, 24, 1)), "0"}, {"tile 24 5", rowOf(places(0, 24, 1))}, {"tile 24 0 12", rowOf(places(0, 12, 1))},
		{"step 6 0 3", "3"}, {"step 4 0", "4"}, {"step 4 0 1 2 3", "1"}, {"step 12 0 1 6 7", "6"}, {"step 1 0", "1"}, {"step 24 23", "24"}, {"step 24 " + rowOf(places(1, 24, 2)), "2"},
	} {
		for _, s := range commandSystems() {
			checkAnswer(t, s, e.line, e.answer)
		}
	}
}

// TestP66Search holds scripts of all words against the searches of the other chapters.
func TestP66Search(t *testing.T) {
	for _, script := range slices.Concat(scriptsWithRoom(), madeScripts(400, greatestScript)) {
		if out, want := impl.Execute(script), scriptBySearch(script); out != want {
			t.Errorf("Execute(%q) returned %q and not %q", script, out, want)
		}
	}
}

// TestP67 checks promise 67.
func TestP67(t *testing.T) {
	for _, s := range slices.Concat(someSystems(), mixedSystems(), spareSystems()) {
		share, ok := impl.SystemShare(s)
		if !ok {
			t.Fatalf("SystemShare(%v) fails", s)
		}
		want := "ok\n" + strconv.Itoa(share) + "\nok\nclasses " + strconv.Itoa(len(s)) + "\n"
		if out := impl.Execute(telling(s) + "\nshare\nsort\n"); out != want {
			t.Errorf("Execute for %v returned %q and not %q", s, out, want)
		}
	}
}

// TestP67Fails tells lists that are no systems, if four digits are enough for their numbers.
func TestP67Fails(t *testing.T) {
	told := 0
	for _, s := range noSystems() {
		script := telling(s) + "\nshare\nsort\n"
		if len(s) == 0 || len(script) > greatestScript || slices.ContainsFunc(s, func(c class) bool { return max(c.Rest, -c.Rest, c.Mod, -c.Mod) > 9999 }) {
			continue
		}
		told++
		if out := impl.Execute(script); out != "no\n1\nok\nclasses 1\n" {
			t.Errorf("Execute(%q) returned %q", script, out)
		}
	}
	if told < 40 {
		t.Errorf("just %d lists are told", told)
	}
}

// TestP67Sorts checks the system behind each of the lines.
func TestP67Sorts(t *testing.T) {
	for _, s := range slices.Concat(greatSystems(), mixedSystems(), spareSystems(), naturalSystems(6)) {
		answers, _ := runLines(t, telling(s), "share", "show", "sort", "show", "share")
		if answers[2] != shownOf(s) || answers[4] != shownOf(sortedBySearch(s)) || answers[1] != answers[5] {
			t.Errorf("the answers for %v are %q", s, answers)
		}
	}
}

// TestP68 checks promise 68.
func TestP68(t *testing.T) {
	for _, m := range moduliUpTo(1000) {
		want := strconv.Itoa(unitsOf(t, m)) + "\nclasses 1\n"
		if out := impl.Execute("units " + strconv.Itoa(m) + "\n"); out != want {
			t.Errorf("Execute of units with %d returned %q and not %q", m, out, want)
		}
	}
	for _, e := range []struct{ m, units int }{{1, 1}, {2, 1}, {7, 6}, {12, 4}, {30, 8}, {997, 996}, {1000, 400}} {
		if out := impl.Execute("units " + strconv.Itoa(e.m) + "\n"); out != strconv.Itoa(e.units)+"\nclasses 1\n" {
			t.Errorf("Execute of units with %d returned %q", e.m, out)
		}
	}
}

// TestP68Numbers checks the ways in which a number may be told, and numbers out of the range of the moduli.
func TestP68Numbers(t *testing.T) {
	for text, m := range numberTexts() {
		want := "no"
		if isModulus(m) {
			want = strconv.Itoa(unitsByDivisors(m))
		}
		checkAnswer(t, system(0, 2), "units "+text, want)
		answers, _ := runLines(t, "classes 0 1000", "move "+text, "show")
		if answers[1] != "ok" || answers[2] != strconv.Itoa(restBySearch(m, 1000))+":1000" {
			t.Errorf("the answers to move and %q are %q", text, answers)
		}
	}
}
