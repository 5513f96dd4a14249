package tests

import (
	"math"
	"slices"
	"testing"

	"loop.example/restcovers/impl"
)

// sortedBySearch takes out the class with the least modulus and the least rest again and again.
func sortedBySearch(s []class) []class {
	left := slices.Clone(s)
	var list []class
	for len(left) > 0 {
		least := 0
		for i, c := range left {
			if c.Mod < left[least].Mod || c.Mod == left[least].Mod && c.Rest < left[least].Rest {
				least = i
			}
		}
		list = append(list, left[least])
		left = slices.Delete(left, least, least+1)
	}
	return list
}

// splitBySearch puts in the place of a class those with the modulus k times as great whose rest it has.
// It does not look at whether the result is a system.
func splitBySearch(s []class, i int, k int) []class {
	var list []class
	for j, c := range s {
		if j != i {
			list = append(list, c)
			continue
		}
		for r := range c.Mod * k {
			if inClass(c, r) {
				list = append(list, pair(r, c.Mod*k))
			}
		}
	}
	return list
}

// canSplit tells by the document's own words whether ExactSplit succeeds for a system.
func canSplit(s []class, i int, k int) bool {
	if i < 0 || i >= len(s) || k < 1 || k > 12 || s[i].Mod*k > 1000 {
		return false
	}
	return isSystem(splitBySearch(s, i, k))
}

// grownSystems are all natural systems with at most so many classes, those with just n at n, their classes in order.
func grownSystems(most int) [][][]class {
	grown := make([][][]class, most+1)
	known := map[[8]class]bool{}
	add := func(s []class) {
		var key [8]class
		copy(key[:], s)
		if !known[key] {
			known[key] = true
			grown[len(s)] = append(grown[len(s)], s)
		}
	}
	add(system(0, 1))
	for n := 1; n < most; n++ {
		for _, s := range grown[n] {
			for i := range s {
				for k := 2; n-1+k <= most; k++ {
					add(sortedBySearch(splitBySearch(s, i, k)))
				}
			}
		}
	}
	return grown
}

// naturalSystems are all natural systems with at most so many classes, each with its classes in some other order.
func naturalSystems(most int) [][]class {
	var list [][]class
	for i, s := range slices.Concat(grownSystems(most)...) {
		list = append(list, mixed(s, i))
	}
	return list
}

// mixed returns the classes in another order, for each number in another one.
func mixed(s []class, seed int) []class {
	left := slices.Clone(s)
	var list []class
	for len(left) > 0 {
		i := seed % len(left)
		seed = seed/len(left) + 7*len(left)
		list = append(list, left[i])
		left = slices.Delete(left, i, i+1)
	}
	return list
}

// orders are all orders of the classes of a list.
func orders(s []class) [][]class {
	if len(s) == 0 {
		return [][]class{nil}
	}
	var list [][]class
	for i, c := range s {
		for _, rest := range orders(slices.Delete(slices.Clone(s), i, i+1)) {
			list = append(list, append([]class{c}, rest...))
		}
	}
	return list
}

// naturalBySearch goes the other way: it puts one class in the place of its parts, in each way, until that of all whole numbers is left.
func naturalBySearch(s []class) bool {
	if slices.Equal(s, system(0, 1)) {
		return true
	}
	for _, c := range s {
		for k := 2; k <= len(s); k++ {
			if c.Mod%k != 0 {
				continue
			}
			whole := pair(c.Rest%(c.Mod/k), c.Mod/k)
			others, did := withoutParts(s, splitBySearch([]class{whole}, 0, k))
			if did && naturalBySearch(append(others, whole)) {
				return true
			}
		}
	}
	return false
}

// withoutParts takes out each part once, and tells whether all of them were there.
func withoutParts(s []class, parts []class) ([]class, bool) {
	others := slices.Clone(s)
	for _, p := range parts {
		i := slices.Index(others, p)
		if i < 0 {
			return nil, false
		}
		others = slices.Delete(others, i, i+1)
	}
	return others, true
}

// exactBySearch looks for all exact systems of at most 8 classes whose moduli divide a number.
func exactBySearch(period int) [][]class {
	var list [][]class
	times := make([]bool, period)
	var s []class
	var search func(open int)
	search = func(open int) {
		if open == 0 {
			list = append(list, slices.Clone(s))
		}
		if open == 0 || len(s) == 8 {
			return
		}
		x := slices.Index(times, false)
		for m := x + 1; m <= period; m++ {
			if period%m != 0 || !allAre(times, x, m, false) {
				continue
			}
			setAll(times, x, m, true)
			s = append(s, pair(x, m))
			search(open - period/m)
			s = s[:len(s)-1]
			setAll(times, x, m, false)
		}
	}
	search(period)
	return list
}

func allAre(times []bool, x int, m int, value bool) bool {
	for y := x; y < len(times); y += m {
		if times[y] != value {
			return false
		}
	}
	return true
}

func setAll(times []bool, x int, m int, value bool) {
	for y := x; y < len(times); y += m {
		times[y] = value
	}
}

// exactPeriods are all numbers up to 1000 for which ExactLeast is at most 8: an exact system of so few classes has no other period.
func exactPeriods() []int {
	return []int{1, 2, 3, 4, 5, 6, 7, 8, 9, 10, 12, 14, 15, 16, 18, 20, 24, 27, 30, 32, 36, 40, 48, 54, 64, 72, 96, 128}
}

// nearSystems are natural ones with a class changed, left out, or there once more: most of them are not exact.
func nearSystems() [][]class {
	var list [][]class
	for n, s := range naturalSystems(6) {
		i := n % len(s)
		for _, c := range []class{pair((s[i].Rest+1)%s[i].Mod, s[i].Mod), pair(s[i].Rest, 2*s[i].Mod), pair(s[i].Rest+s[i].Mod, 2*s[i].Mod), pair(0, 1), s[(i+1)%len(s)]} {
			near := slices.Clone(s)
			near[i] = c
			list = append(list, near)
		}
		list = append(list, append(slices.Clone(s), s[i]))
		if len(s) > 1 {
			list = append(list, slices.Delete(slices.Clone(s), i, i+1))
		}
	}
	return list
}

// exactChapterSystems are natural ones of all numbers of classes, and others.
func exactChapterSystems() [][]class {
	return slices.Concat(naturalSystems(8), nearSystems(), holeSystems())
}

// splitSystems are few enough to split each class in each way.
func splitSystems() [][]class {
	return slices.Concat(naturalSystems(5), greatSystems(), spareSystems(), shortSystems(2, 4), [][]class{
		system(0, 8, 0, 125), system(0, 500, 0, 1), system(0, 83, 0, 1), system(0, 84), system(1, 91), system(1, 90), residues(0, 6, 6), residues(0, 7, 7),
	})
}

// noPlaces are no places of a list of n classes.
func noPlaces(n int) []int {
	return []int{-1, -2, -n - 1, n, n + 1, 8, 1000, math.MinInt, math.MaxInt}
}

// noParts are no numbers of parts of any class.
func noParts() []int {
	return []int{0, -1, -2, -12, 13, 14, 1000, math.MinInt, math.MinInt + 1, math.MaxInt}
}

// leastBySum looks for the primes that divide a number, each one as often as it does.
func leastBySum(n int) int {
	least := 1
	for p := 2; p <= n; p++ {
		if leastPrime(p) != p {
			continue
		}
		for power := p; n%power == 0; power *= p {
			least += p - 1
		}
	}
	return least
}

// leastPrime is the least divisor from 2 on.
func leastPrime(n int) int {
	for d := 2; d < n; d++ {
		if n%d == 0 {
			return d
		}
	}
	return n
}

// splitOf is ExactSplit where it succeeds.
func splitOf(t *testing.T, s []class, i int, k int) []class {
	t.Helper()
	split, ok := impl.ExactSplit(s, i, k)
	if !ok {
		t.Fatalf("ExactSplit(%v, %d, %d) fails", s, i, k)
	}
	return split
}

// twinsOf is ExactTwins of a list that is a system.
func twinsOf(t *testing.T, s []class) int {
	t.Helper()
	n, ok := impl.ExactTwins(s)
	if !ok {
		t.Fatalf("ExactTwins(%v) fails", s)
	}
	return n
}

// moduliOf is ExactModuli of a list that is a system.
func moduliOf(t *testing.T, s []class) []int {
	t.Helper()
	moduli, ok := impl.ExactModuli(s)
	if !ok {
		t.Fatalf("ExactModuli(%v) fails", s)
	}
	return moduli
}

// leastClasses is ExactLeast of a number in its range.
func leastClasses(t *testing.T, n int) int {
	t.Helper()
	least, ok := impl.ExactLeast(n)
	if !ok {
		t.Fatalf("ExactLeast(%d) fails", n)
	}
	return least
}

// sortedOf is ExactSorted of a list that is a system.
func sortedOf(t *testing.T, s []class) []class {
	t.Helper()
	sorted, ok := impl.ExactSorted(s)
	if !ok {
		t.Fatalf("ExactSorted(%v) fails", s)
	}
	return sorted
}
