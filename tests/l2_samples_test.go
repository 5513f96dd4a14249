package tests

import (
	"slices"
	"testing"

	"loop.example/restcovers/impl"
)

// system makes a list of classes from rests and moduli, each two of them behind each other.
func system(numbers ...int) []class {
	var s []class
	for i := 0; i+1 < len(numbers); i += 2 {
		s = append(s, pair(numbers[i], numbers[i+1]))
	}
	return s
}

// manyTimes is a list of equal classes.
func manyTimes(n int, c class) []class {
	return slices.Repeat([]class{c}, n)
}

// residues are the classes with one modulus and all rests from one on and less than another one.
func residues(from int, end int, m int) []class {
	var s []class
	for r := from; r < end; r++ {
		s = append(s, pair(r, m))
	}
	return s
}

// shortSystems are all lists of one to most classes with moduli up to a number.
func shortSystems(most int, greatest int) [][]class {
	var list, ends [][]class
	ends = [][]class{nil}
	for range most {
		var longer [][]class
		for _, s := range ends {
			for _, c := range smallClasses(greatest) {
				longer = append(longer, append(slices.Clone(s), c))
			}
		}
		list = append(list, longer...)
		ends = longer
	}
	return list
}

// greatSystems have 8 classes, or a period of just ModMax or near it, or both, or equal classes.
func greatSystems() [][]class {
	return [][]class{
		system(0, 1000), system(999, 1000), system(0, 999), system(0, 1000, 999, 1000),
		system(7, 8, 124, 125), system(0, 8, 0, 125, 0, 2, 0, 1), system(1, 2, 2, 4, 4, 8, 0, 1000),
		system(30, 31, 31, 32), system(0, 3, 0, 5, 0, 7, 0, 8, 1, 2, 1, 4, 1, 6, 1, 10),
		manyTimes(8, pair(0, 1)), manyTimes(8, pair(999, 1000)), manyTimes(8, pair(3, 8)),
		manyTimes(2, pair(0, 2)), manyTimes(2, pair(0, 1000)), append(manyTimes(2, pair(1, 3)), pair(0, 3)),
		system(0, 2, 0, 2, 1, 2), system(5, 6, 0, 4, 5, 6), system(2, 4, 0, 2, 2, 4, 1, 2, 2, 4),
		residues(0, 8, 8), residues(0, 7, 8), residues(1, 8, 8), residues(0, 8, 9), residues(0, 7, 7),
		system(7, 8, 0, 8, 6, 8, 1, 8, 5, 8, 2, 8, 4, 8, 3, 8),
		system(0, 2, 0, 3, 1, 4, 5, 6, 7, 12), system(7, 12, 5, 6, 1, 4, 0, 3, 0, 2), system(0, 2, 0, 3, 1, 4, 1, 6, 11, 12),
		system(0, 2, 1, 4, 3, 8, 7, 16, 15, 32, 31, 64, 63, 128, 127, 128),
		system(0, 2, 1, 4, 3, 8, 7, 16, 15, 32, 31, 64, 63, 128, 127, 256),
		system(0, 2, 1, 4, 3, 8, 7, 16, 15, 32, 31, 64, 63, 128, 126, 128),
		system(0, 2, 1, 6, 3, 6, 5, 12, 11, 12), system(11, 12, 5, 12, 3, 6, 1, 6, 0, 2), system(0, 5, 1, 5, 2, 5, 3, 5, 4, 10, 9, 10),
		system(0, 1, 17, 30), system(17, 30, 0, 1), system(0, 1, 999, 1000),
	}
}

// someSystems are short ones and great ones.
func someSystems() [][]class {
	return slices.Concat(shortSystems(1, 12), shortSystems(2, 6), shortSystems(3, 3), greatSystems())
}

// noSystems are lists that are no systems, each by another reason.
func noSystems() [][]class {
	list := [][]class{
		nil, {},
		manyTimes(9, pair(0, 1)), manyTimes(9, pair(999, 1000)), residues(0, 9, 9), manyTimes(16, pair(0, 2)), manyTimes(5000, pair(0, 1)),
		// A period that is too great: by 1, by 2, twice, only with the last class, and beyond the range of int.
		system(0, 7, 0, 143), system(0, 2, 0, 501), system(0, 16, 0, 125), system(0, 1000, 0, 16), system(0, 999, 0, 1000),
		system(30, 31, 31, 32, 0, 3), system(0, 8, 0, 9, 0, 5, 0, 7), system(0, 1, 0, 2, 0, 4, 0, 8, 0, 5, 0, 25, 0, 125, 0, 3),
		system(0, 997, 0, 991, 0, 983, 0, 977, 0, 971, 0, 967, 0, 953, 0, 947), system(0, 512, 0, 729, 0, 625, 0, 343, 0, 121, 0, 169, 0, 289, 0, 361),
	}
	for _, n := range noClasses() {
		list = append(list, []class{n}, []class{n, pair(0, 1)}, []class{pair(0, 1), n}, append(residues(0, 7, 7), n))
	}
	return list
}

// timesAt tells by the document's own words how many classes of a list have a number.
func timesAt(s []class, x int) int {
	n := 0
	for _, c := range s {
		if inClass(c, x) {
			n++
		}
	}
	return n
}

// periodBySearch looks for the least number that all moduli divide, and tells 0 if it is greater than 1000.
func periodBySearch(s []class) int {
	for p := 1; p <= 1000; p++ {
		if !slices.ContainsFunc(s, func(c class) bool { return p%c.Mod != 0 }) {
			return p
		}
	}
	return 0
}

// isSystem tells the ranges of the number of classes, of each class and of the period.
func isSystem(s []class) bool {
	if len(s) < 1 || len(s) > 8 {
		return false
	}
	return !slices.ContainsFunc(s, func(c class) bool { return !isClass(c) }) && periodBySearch(s) > 0
}

// holesBySearch looks at the numbers from one on and less than another one.
func holesBySearch(s []class, from int, end int) []int {
	var holes []int
	for x := from; x < end; x++ {
		if timesAt(s, x) == 0 {
			holes = append(holes, x)
		}
	}
	return holes
}

// apartBySearch looks for a number in three periods, negative ones among them, that two classes have.
func apartBySearch(s []class) bool {
	p := periodBySearch(s)
	for x := -p; x < 2*p; x++ {
		if timesAt(s, x) > 1 {
			return false
		}
	}
	return true
}

// allBySearch looks for a hole in three periods, negative numbers among them.
func allBySearch(s []class) bool {
	p := periodBySearch(s)
	return len(holesBySearch(s, -p, 2*p)) == 0
}

// sameBySearch looks for a number in three periods of both together that is a hole of just one of them.
func sameBySearch(s []class, t []class) bool {
	p := periodBySearch(slices.Concat(s, t))
	return p > 0 && slices.Equal(holesBySearch(s, -p, 2*p), holesBySearch(t, -p, 2*p))
}

// periodOf is SystemPeriod of a list that is a system.
func periodOf(t *testing.T, s []class) int {
	t.Helper()
	p, ok := impl.SystemPeriod(s)
	if !ok {
		t.Fatalf("SystemPeriod(%v) fails", s)
	}
	return p
}

// timesOf is SystemTimes of a list that is a system.
func timesOf(t *testing.T, s []class) []int {
	t.Helper()
	times, ok := impl.SystemTimes(s)
	if !ok {
		t.Fatalf("SystemTimes(%v) fails", s)
	}
	return times
}

// holesOf is SystemHoles of a list that is a system.
func holesOf(t *testing.T, s []class) []int {
	t.Helper()
	holes, ok := impl.SystemHoles(s)
	if !ok {
		t.Fatalf("SystemHoles(%v) fails", s)
	}
	return holes
}

// shareOf is SystemShare of a list that is a system.
func shareOf(t *testing.T, s []class) int {
	t.Helper()
	share, ok := impl.SystemShare(s)
	if !ok {
		t.Fatalf("SystemShare(%v) fails", s)
	}
	return share
}

// movedOf is SystemMoved of a list that is a system, by a number in its range.
func movedOf(t *testing.T, s []class, x int) []class {
	t.Helper()
	moved, ok := impl.SystemMoved(s, x)
	if !ok {
		t.Fatalf("SystemMoved(%v, %d) fails", s, x)
	}
	return moved
}

// sum adds up numbers.
func sum(list []int) int {
	n := 0
	for _, x := range list {
		n += x
	}
	return n
}
