package tests

import (
	"math"

	"loop.example/restcovers/impl"
)

type class = impl.Class

const greatestNumber = 1000000

func pair(rest int, mod int) class {
	return class{Rest: rest, Mod: mod}
}

// noClasses are pairs that are no classes, each by another end of a range.
func noClasses() []class {
	return []class{
		pair(0, 0), pair(1, 0), pair(-1, 0),
		pair(0, -1), pair(0, -5), pair(-1, -5), pair(0, math.MinInt),
		pair(1, 1), pair(-1, 1), pair(5, 5), pair(6, 5), pair(-1, 5), pair(-5, 5),
		pair(1000, 1000), pair(-1, 1000),
		pair(0, 1001), pair(1000, 1001), pair(0, 2000),
		pair(math.MaxInt, 7), pair(math.MinInt, 7),
		pair(0, math.MaxInt), pair(math.MaxInt, math.MaxInt), pair(math.MinInt, math.MinInt),
	}
}

// smallClasses are all classes with moduli up to a number.
func smallClasses(most int) []class {
	var list []class
	for m := 1; m <= most; m++ {
		for r := range m {
			list = append(list, pair(r, m))
		}
	}
	return list
}

// someClasses are small ones and some with great moduli.
func someClasses() []class {
	return append(smallClasses(9),
		pair(17, 30), pair(99, 100), pair(0, 499),
		pair(1, 500), pair(250, 501), pair(5, 997),
		pair(998, 999), pair(0, 1000), pair(500, 1000),
		pair(999, 1000))
}

// someNumbers are numbers about 0, about the multiples of 1000, and at both ends of the range.
func someNumbers() []int {
	list := []int{
		-greatestNumber, -greatestNumber + 1, -greatestNumber + 2, -990001, -990000, -123457, -2001, -2000, -1999, -1001, -1000, -999, -500,
		500, 997, 998, 999, 1000, 1001, 1999, 2000, 2001, 123456, 989999, 990000, greatestNumber - 2, greatestNumber - 1, greatestNumber,
	}
	for x := -40; x <= 40; x++ {
		list = append(list, x)
	}
	return list
}

// noNumbers are out of the range of the numbers.
func noNumbers() []int {
	return []int{-greatestNumber - 1, greatestNumber + 1, -2 * greatestNumber, 2 * greatestNumber, math.MinInt, math.MinInt + 1, math.MaxInt - 1, math.MaxInt}
}

// noModuli are out of the range of the moduli.
func noModuli() []int {
	return []int{0, -1, -2, -1000, 1001, 1002, 1000000, math.MinInt, math.MaxInt}
}

// inClass tells by the document's own words whether a class has a number: it is the rest and a multiple of the modulus.
func inClass(c class, x int) bool {
	return (x-c.Rest)%c.Mod == 0
}

// isClass tells the ranges of the moduli and of the rests.
func isClass(c class) bool {
	return 1 <= c.Mod && c.Mod <= 1000 && 0 <= c.Rest && c.Rest <= c.Mod-1
}

func halfDown(x int) int {
	return int(math.Floor(float64(x) / 2))
}
