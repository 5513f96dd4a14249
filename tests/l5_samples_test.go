package tests

import (
	"math"
	"slices"
	"testing"

	"loop.example/restcovers/impl"
)

// basesUpTo are all bases whose size is at most a number, with the moduli in each order.
func basesUpTo(size int) [][]int {
	var list [][]int
	var search func(base []int, size int)
	search = func(base []int, size int) {
		for m := 2; m <= min(30, size); m++ {
			longer := append(slices.Clone(base), m)
			if isBase(longer) {
				list = append(list, longer)
				search(longer, size/m)
			}
		}
	}
	search(nil, size)
	return list
}

// greatBases have great moduli or many of them.
func greatBases() [][]int {
	return [][]int{
		{30, 29}, {29, 30}, {2, 29}, {30, 7}, {25, 24}, {27, 28, 29}, {30, 29, 23}, {16, 9, 5}, {2, 3, 5, 7}, {7, 5, 3, 2}, {3, 7, 2, 5}, {5, 2, 7, 3},
		{11, 4, 9, 7}, {8, 9, 5, 7}, {2, 3, 29, 25}, {30, 29, 23, 19}, {29, 28, 27, 25}, {25, 27, 28, 29},
	}
}

// someBases are those with all their numbers in short searches, and great ones.
func someBases() [][]int {
	return append(basesUpTo(210), greatBases()...)
}

// noBases are lists that are no bases, each by another end of a range or by another common divisor.
func noBases() [][]int {
	return [][]int{
		nil, {},
		{1}, {0}, {-1}, {-2}, {-30}, {31}, {32}, {1000}, {math.MinInt}, {math.MaxInt},
		{1, 2}, {2, 1}, {1, 1}, {2, 0}, {0, 3}, {0, 0}, {-2, 3}, {3, -2}, {2, 31}, {31, 2}, {3, 37}, {math.MinInt, math.MinInt}, {3, math.MaxInt}, {math.MaxInt, 3}, {math.MinInt, 2},
		{2, 3, 1}, {2, 3, 31}, {1, 2, 3}, {2, 3, 5, 1}, {2, 3, 5, 0}, {2, 3, 5, 31}, {2, 3, 5, -7}, {31, 2, 3, 5}, {2, 31, 3, 5}, {29, 28, 27, math.MaxInt},
		{2, 2}, {3, 3}, {30, 30}, {29, 29}, {2, 4}, {4, 2}, {6, 9}, {10, 15}, {2, 30}, {30, 2}, {14, 21}, {26, 13},
		{2, 3, 2}, {2, 3, 3}, {2, 2, 3}, {6, 5, 3}, {6, 35, 3}, {10, 3, 5}, {6, 10, 15}, {30, 29, 25},
		{2, 3, 5, 2}, {2, 3, 5, 3}, {2, 3, 5, 5}, {2, 3, 5, 10}, {2, 3, 25, 5}, {2, 9, 5, 3}, {4, 3, 5, 6}, {29, 28, 27, 26}, {7, 29, 30, 14}, {2, 2, 3, 5}, {2, 3, 3, 5}, {2, 2, 2, 2},
		{2, 3, 5, 7, 11}, {11, 7, 5, 3, 2}, {2, 3, 5, 7, 1}, {2, 3, 5, 7, 7}, {1, 2, 3, 5, 7}, {2, 3, 5, 7, 11, 13}, {2, 3, 5, 7, 11, 13, 17, 19, 23, 29},
	}
}

// isBase tells by the document's own words whether a list is a base.
func isBase(list []int) bool {
	if len(list) < 1 || len(list) > 4 {
		return false
	}
	for i, m := range list {
		if m < 2 || m > 30 {
			return false
		}
		for _, n := range list[:i] {
			for d := 2; d <= 30; d++ {
				if m%d == 0 && n%d == 0 {
					return false
				}
			}
		}
	}
	return true
}

// sizeOf is the product of the moduli.
func sizeOf(base []int) int {
	size := 1
	for _, m := range base {
		size *= m
	}
	return size
}

// numbersOf are all numbers of a base of which the size is at most 210, and else some, the first and the last ones among them.
func numbersOf(base []int) []int {
	size := sizeOf(base)
	step := 1
	if size > 210 {
		step = size/150 + 1
	}
	var list []int
	for x := 0; x < size; x++ {
		if x < 5 || x >= size-5 || x%step == 0 {
			list = append(list, x)
		}
	}
	return list
}

// noNumbersOf are none of the numbers of a base.
func noNumbersOf(base []int) []int {
	size := sizeOf(base)
	return []int{-1, -2, -size, 1 - size, size, size + 1, 2 * size, 1000000, math.MinInt, math.MinInt + 1, math.MaxInt}
}

// restsBySearch looks for each rest: what is left is a multiple of the modulus.
func restsBySearch(base []int, x int) []int {
	var list []int
	for _, m := range base {
		for r := range m {
			if (x-r)%m == 0 {
				list = append(list, r)
			}
		}
	}
	return list
}

// allRests are the lists of rests of all numbers of a base, found without numbers: each rest goes with each one of the others.
func allRests(base []int) [][]int {
	list := [][]int{nil}
	for _, m := range base {
		var longer [][]int
		for _, r := range list {
			for x := range m {
				longer = append(longer, append(slices.Clone(r), x))
			}
		}
		list = longer
	}
	return list
}

// noRests are lists that are no rests of a base: too few or too many of them, or one too small or too great.
func noRests(base []int) [][]int {
	n := len(base)
	zeros := make([]int, n)
	last := restsBySearch(base, sizeOf(base)-1)
	list := [][]int{nil, {}, zeros[:n-1], last[:n-1], last[1:], append(slices.Clone(zeros), 0), append(slices.Clone(last), 0), append(slices.Clone(last), 1), make([]int, n+2), make([]int, 5), make([]int, 9)}
	for i, m := range base {
		for _, x := range []int{-1, -2, -m, 1 - m, m, m + 1, 2 * m, 31, 1000, math.MinInt, math.MinInt + 1, math.MaxInt} {
			for _, r := range [][]int{zeros, last} {
				other := slices.Clone(r)
				other[i] = x
				list = append(list, other)
			}
		}
	}
	return list
}

// numberBySearch is the only number of a base with some rests.
func numberBySearch(base []int, r []int) int {
	for x := range sizeOf(base) {
		if slices.Equal(restsBySearch(base, x), r) {
			return x
		}
	}
	return -1
}

// countOn turns the digits of a number into those of 1 more, as a counter does.
func countOn(base []int, digits []int) {
	for i, m := range base {
		digits[i]++
		if digits[i] < m {
			return
		}
		digits[i] = 0
	}
}

// backBySearch is the only number of a base whose product with a number is 1 more than a multiple of the size, and -1 if there is none.
func backBySearch(size int, x int) int {
	for y := range size {
		if (x*y-1)%size == 0 {
			return y
		}
	}
	return -1
}

// restSizeOf is RestSize of a base.
func restSizeOf(t *testing.T, base []int) int {
	t.Helper()
	size, ok := impl.RestSize(base)
	if !ok {
		t.Fatalf("RestSize(%v) fails", base)
	}
	return size
}

// restsOf is RestOf of a number of a base.
func restsOf(t *testing.T, base []int, x int) []int {
	t.Helper()
	r, ok := impl.RestOf(base, x)
	if !ok {
		t.Fatalf("RestOf(%v, %d) fails", base, x)
	}
	return r
}

// numberOf is RestNumber of rests of a base.
func numberOf(t *testing.T, base []int, r []int) int {
	t.Helper()
	x, ok := impl.RestNumber(base, r)
	if !ok {
		t.Fatalf("RestNumber(%v, %v) fails", base, r)
	}
	return x
}
