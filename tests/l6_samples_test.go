package tests

import (
	"math"
	"testing"

	"loop.example/restcovers/impl"
)

// moduliUpTo are the moduli from 1 to a number.
func moduliUpTo(most int) []int {
	var list []int
	for m := 1; m <= most; m++ {
		list = append(list, m)
	}
	return list
}

// greatModuli have many small primes, powers of one, or just one great prime.
func greatModuli() []int {
	return []int{243, 256, 343, 360, 486, 499, 512, 625, 686, 720, 729, 840, 841, 900, 961, 991, 997, 998, 999, 1000}
}

// numbersAbout are the numbers from 1 period ahead of 0 to 2 behind it, and the ends of the range.
func numbersAbout(m int) []int {
	list := []int{-greatestNumber, 1 - greatestNumber, greatestNumber - 1, greatestNumber}
	for x := -m - 1; x <= 2*m; x++ {
		list = append(list, x)
	}
	return list
}

// eachNumber gives out small moduli with all numbers about them, and great ones with some numbers.
func eachNumber(most int, check func(a int, m int)) {
	for _, m := range moduliUpTo(most) {
		for _, a := range numbersAbout(m) {
			check(a, m)
		}
	}
	for _, m := range greatModuli() {
		for _, a := range someNumbers() {
			check(a, m)
		}
	}
}

// eachInvalid gives out numbers and moduli of which one at least is not in its range.
func eachInvalid(check func(a int, m int)) {
	for _, a := range append(noNumbers(), 0, 1, -1, 2, 7, greatestNumber, -greatestNumber) {
		for _, m := range noModuli() {
			check(a, m)
		}
	}
	for _, a := range noNumbers() {
		for _, m := range []int{1, 2, 3, 7, 10, 997, 999, 1000} {
			check(a, m)
		}
	}
}

// noPowers are out of the range of the powers.
func noPowers() []int {
	return []int{-1, -2, -greatestNumber, greatestNumber + 1, 2 * greatestNumber, math.MinInt, math.MinInt + 1, math.MaxInt - 1, math.MaxInt}
}

// restBySearch is the only number from 0 to m - 1 that is a multiple of m away from x.
func restBySearch(x int, m int) int {
	for r := range m {
		if (x-r)%m == 0 {
			return r
		}
	}
	return -1
}

// solves tells by the document's own words whether x is one of those that a line asks for.
func solves(line []int, x int) bool {
	return (line[0]*x-line[1])%line[2] == 0
}

func solvesAll(lines [][]int, x int) bool {
	for _, line := range lines {
		if !solves(line, x) {
			return false
		}
	}
	return true
}

// allBySolving looks for the first two solutions: a class with a modulus of at most 1000 has both below 2000,
// and another one has none there or just ones that are more than 1000 apart.
func allBySolving(lines [][]int) (class, bool) {
	first := -1
	for x := range 2000 {
		if !solvesAll(lines, x) {
			continue
		}
		if first < 0 {
			first = x
		} else if c := pair(first, x-first); isClass(c) {
			return c, true
		} else {
			return class{}, false
		}
	}
	return class{}, false
}

// backNumber looks for the least number that leads back.
func backNumber(a int, m int) (int, bool) {
	for x := range m {
		if (a*x-1)%m == 0 {
			return x, true
		}
	}
	return 0, false
}

// orderBySteps multiplies until the rest is 1, or until it has been there: then all comes again.
func orderBySteps(a int, m int) (int, bool) {
	one, seen := restBySearch(1, m), map[int]bool{}
	power := one
	for k := 1; ; k++ {
		power = restBySearch(power*restBySearch(a, m), m)
		if power == one {
			return k, true
		}
		if seen[power] {
			return 0, false
		}
		seen[power] = true
	}
}

// unitsByDivisors tries all common divisors greater than 1.
func unitsByDivisors(m int) int {
	units := 0
	for x := 1; x <= m; x++ {
		common := false
		for d := 2; d <= x; d++ {
			common = common || x%d == 0 && m%d == 0
		}
		if !common {
			units++
		}
	}
	return units
}

// isOddPrimePower tells whether a number is the power of an odd prime.
func isOddPrimePower(n int) bool {
	if n < 3 {
		return false
	}
	p := 3
	for n%p != 0 && n%2 != 0 {
		p += 2
	}
	for n%p == 0 {
		n /= p
	}
	return n == 1
}

// mayHaveRoot tells the moduli that promise 53 names.
func mayHaveRoot(m int) bool {
	return m == 1 || m == 2 || m == 4 || isOddPrimePower(m) || m%2 == 0 && isOddPrimePower(m/2)
}

// squaresBySearch looks for the numbers whose square is a multiple of m away from a.
func squaresBySearch(a int, m int) []int {
	var list []int
	for x := range m {
		if (x*x-a)%m == 0 {
			list = append(list, x)
		}
	}
	return list
}

// powerBySteps multiplies k times.
func powerBySteps(a int, k int, m int) int {
	power, factor := restBySearch(1, m), restBySearch(a, m)
	for range k {
		power = power * factor % m
	}
	return power
}

// backOf is SolveBack of a number that has one to go back to.
func backOf(t *testing.T, a int, m int) int {
	t.Helper()
	x, ok := impl.SolveBack(a, m)
	if !ok {
		t.Fatalf("SolveBack(%d, %d) fails", a, m)
	}
	return x
}

// orderOf is SolveOrder of a number that has one.
func orderOf(t *testing.T, a int, m int) int {
	t.Helper()
	k, ok := impl.SolveOrder(a, m)
	if !ok {
		t.Fatalf("SolveOrder(%d, %d) fails", a, m)
	}
	return k
}

// unitsOf is SolveUnits of a modulus.
func unitsOf(t *testing.T, m int) int {
	t.Helper()
	n, ok := impl.SolveUnits(m)
	if !ok {
		t.Fatalf("SolveUnits(%d) fails", m)
	}
	return n
}

// powerOf is SolvePower of a number and a power in their ranges.
func powerOf(t *testing.T, a int, k int, m int) int {
	t.Helper()
	x, ok := impl.SolvePower(a, k, m)
	if !ok {
		t.Fatalf("SolvePower(%d, %d, %d) fails", a, k, m)
	}
	return x
}
