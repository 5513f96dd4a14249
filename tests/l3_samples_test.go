package tests

import (
	"slices"
	"testing"

	"loop.example/restcovers/impl"
)

// mixedSystems are made by a rule without chance: 3 to 8 classes each, with periods that divide one number.
func mixedSystems() [][]class {
	var list [][]class
	seed := 1
	next := func(end int) int {
		seed = (seed*1103 + 12345) % 1000003
		return seed / 7 % end
	}
	for _, period := range []int{4, 6, 8, 12, 24, 30, 36, 48, 60, 120, 420, 840, 1000} {
		var moduli []int
		for m := 2; m <= period && m <= 60; m++ {
			if period%m == 0 {
				moduli = append(moduli, m)
			}
		}
		for n := 3; n <= 8; n++ {
			for range 12 {
				var s []class
				for range n {
					m := moduli[next(min(len(moduli), n+1))]
					s = append(s, pair(next(m), m))
				}
				list = append(list, s)
			}
		}
	}
	return list
}

// spareSystems cover all or have spare classes, of which it matters which are left out and in which order.
func spareSystems() [][]class {
	return [][]class{
		system(0, 1, 0, 2), system(0, 2, 0, 1), system(0, 2, 1, 2, 0, 1), system(0, 1, 0, 2, 1, 2), system(0, 2, 0, 1, 1, 2),
		system(0, 2, 1, 2, 0, 3, 1, 3, 2, 3), system(0, 3, 1, 3, 2, 3, 0, 2, 1, 2), system(0, 3, 0, 2, 1, 3, 1, 2, 2, 3),
		manyTimes(2, pair(4, 9)), manyTimes(3, pair(0, 1)), manyTimes(7, pair(2, 3)), system(0, 2, 1, 4, 0, 2, 1, 4), system(1, 4, 0, 2, 1, 4, 3, 8, 0, 2),
		system(0, 2, 0, 3, 0, 6), system(0, 6, 0, 3, 0, 2), system(0, 2, 0, 6, 0, 3), system(0, 3, 1, 6, 4, 6, 1, 3), system(2, 4, 0, 4, 0, 2, 1, 4),
		system(0, 500, 0, 1000, 500, 1000), system(0, 2, 998, 1000, 1, 1000), system(0, 8, 0, 125, 0, 1000), system(999, 1000, 0, 1, 999, 1000),
		system(0, 4, 1, 4, 2, 4, 3, 4, 0, 2, 1, 2, 0, 1, 5, 8), system(0, 2, 0, 3, 1, 4, 5, 6, 7, 12, 1, 6, 3, 4, 11, 12),
	}
}

// holeSystems are those of chapter 2 and longer ones.
func holeSystems() [][]class {
	return slices.Concat(someSystems(), mixedSystems(), spareSystems(), fillSystems())
}

// fillSystems have about 20 holes.
func fillSystems() [][]class {
	return [][]class{
		system(0, 19), system(0, 20), system(0, 21), system(0, 22), system(20, 21), system(21, 22), system(0, 2, 39, 40), system(0, 2, 1, 40),
		system(0, 2, 0, 42), system(0, 2, 1, 42), system(0, 2, 1, 44), manyTimes(8, pair(5, 21)), residues(0, 8, 28), residues(0, 8, 29),
		residues(0, 2, 22), residues(20, 22, 22), system(0, 4, 1, 4, 2, 4, 3, 80), system(0, 4, 1, 4, 2, 4, 3, 84), system(0, 4, 1, 4, 2, 4, 3, 88),
	}
}

// meetSystems are few enough to take each two of them.
func meetSystems() [][]class {
	return slices.Concat(greatSystems(), spareSystems(), shortSystems(1, 5), [][]class{
		system(0, 2, 1, 2), system(0, 3, 1, 3, 2, 3), residues(0, 4, 4), residues(0, 3, 4), residues(0, 4, 5), residues(4, 8, 8),
		system(0, 16, 1, 2), system(1, 250), system(0, 125), system(124, 125), system(0, 8), system(0, 7), system(0, 143), system(0, 40, 1, 25),
	})
}

// leastHole looks for the least hole that is not negative, and tells -1 if there is none.
func leastHole(s []class) int {
	for x := range 2000 {
		if timesAt(s, x) == 0 {
			return x
		}
	}
	return -1
}

// runBySearch counts covered numbers behind each other in four periods, negative ones among them.
func runBySearch(s []class) int {
	p := periodBySearch(s)
	longest, run := 0, 0
	for x := -p; x < 3*p; x++ {
		run++
		if timesAt(s, x) == 0 {
			run = 0
		}
		longest = max(longest, run)
	}
	if longest == 4*p {
		return -1
	}
	return longest
}

// spareBySearch looks at all numbers of each class in three periods, negative ones among them.
func spareBySearch(s []class) []int {
	p := periodBySearch(s)
	var places []int
	for i, c := range s {
		others := slices.Delete(slices.Clone(s), i, i+1)
		spare := true
		for x := -p; x < 2*p; x++ {
			spare = spare && (!inClass(c, x) || timesAt(others, x) > 0)
		}
		if spare {
			places = append(places, i)
		}
	}
	return places
}

// leastBySearch leaves out the last spare class again and again.
func leastBySearch(s []class) []class {
	list := slices.Clone(s)
	for places := spareBySearch(list); len(places) > 0; places = spareBySearch(list) {
		last := places[len(places)-1]
		list = slices.Delete(list, last, last+1)
	}
	return list
}

// fillBySearch has a class for each hole of one period.
func fillBySearch(s []class) []class {
	p := periodBySearch(s)
	var list []class
	for _, x := range holesBySearch(s, 0, p) {
		list = append(list, pair(x, p))
	}
	return list
}

// worstBySearch looks for the greatest number that divides both.
func worstBySearch(s []class) (int, int) {
	p := periodBySearch(s)
	n := len(holesBySearch(s, 0, p))
	d := p
	for n%d != 0 || p%d != 0 {
		d--
	}
	return n / d, p / d
}

// pairsBySearch looks for the common numbers of each pair of classes; it does not look at how many pairs there are.
func pairsBySearch(s []class, u []class) []class {
	var list []class
	for _, c := range s {
		for _, d := range u {
			m := periodBySearch([]class{c, d})
			for x := range m {
				if inClass(c, x) && inClass(d, x) {
					list = append(list, pair(x, m))
				}
			}
		}
	}
	return list
}

// canMeet tells by the document's own words whether HoleMeet succeeds for two systems.
func canMeet(s []class, u []class) bool {
	if periodBySearch(slices.Concat(s, u)) == 0 {
		return false
	}
	n := len(pairsBySearch(s, u))
	return 1 <= n && n <= 8
}

// spareOf is HoleSpare of a list that is a system.
func spareOf(t *testing.T, s []class) []int {
	t.Helper()
	places, ok := impl.HoleSpare(s)
	if !ok {
		t.Fatalf("HoleSpare(%v) fails", s)
	}
	return places
}

// leastOf is HoleLeast of a list that is a system.
func leastOf(t *testing.T, s []class) []class {
	t.Helper()
	least, ok := impl.HoleLeast(s)
	if !ok {
		t.Fatalf("HoleLeast(%v) fails", s)
	}
	return least
}

// fillOf is HoleFill of a system with few enough holes.
func fillOf(t *testing.T, s []class) []class {
	t.Helper()
	fill, ok := impl.HoleFill(s)
	if !ok {
		t.Fatalf("HoleFill(%v) fails", s)
	}
	return fill
}

// meetOf is HoleMeet of two systems that meet in 1 to 8 classes.
func meetOf(t *testing.T, s []class, u []class) []class {
	t.Helper()
	meet, ok := impl.HoleMeet(s, u)
	if !ok {
		t.Fatalf("HoleMeet(%v, %v) fails", s, u)
	}
	return meet
}
