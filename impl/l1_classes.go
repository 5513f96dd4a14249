package impl

import "iter"

// ModMax is the greatest modulus.
const ModMax = 1000

// numberMax is the greatest number meant here, and its opposite the least one.
const numberMax = 1000000

// partsMax is the greatest number of parts of a class.
const partsMax = 12

// Class has the whole numbers with one rest by a modulus.
type Class struct {
	Rest int
	Mod  int
}

func inModuli(m int) bool {
	return m >= 1 && m <= ModMax
}

func inNumbers(x int) bool {
	return x >= -numberMax && x <= numberMax
}

// restOf is never negative: the operator % alone keeps the sign of x.
func restOf(x int, m int) int {
	r := x % m
	if r < 0 {
		r += m
	}
	return r
}

func commonDivisor(a int, b int) int {
	for b != 0 {
		a, b = b, a%b
	}
	return a
}

// commonMultiple divides first, so that no product is greater than the result.
func commonMultiple(a int, b int) int {
	return a / commonDivisor(a, b) * b
}

// classAt expects a modulus that is one, for every x.
func classAt(x int, m int) Class {
	return Class{Rest: restOf(x, m), Mod: m}
}

// wholeClass has all whole numbers.
func wholeClass() Class {
	return classAt(0, 1)
}

func (c Class) valid() bool {
	return inModuli(c.Mod) && c.Rest >= 0 && c.Rest < c.Mod
}

func (c Class) has(x int) bool {
	return classAt(x, c.Mod) == c
}

// below needs just one number of c: all others are multiples of both moduli away.
func (c Class) below(d Class) bool {
	return c.Mod%d.Mod == 0 && d.has(c.Rest)
}

func (c Class) first(x int) int {
	return x + restOf(c.Rest-x, c.Mod)
}

// numbers gives out the numbers of a class from one on and less than another one, in ascending order.
func (c Class) numbers(from int, end int) iter.Seq[int] {
	return func(yield func(int) bool) {
		for x := c.first(from); x < end; x += c.Mod {
			if !yield(x) {
				return
			}
		}
	}
}

// ClassIn reports whether a pair is a class.
func ClassIn(c Class) bool {
	return c.valid()
}

// ClassOf returns the class with a modulus that has a number, and true.
func ClassOf(x int, m int) (Class, bool) {
	if !inNumbers(x) || !inModuli(m) {
		return Class{}, false
	}
	return classAt(x, m), true
}

// ClassHas reports whether a class has a number.
func ClassHas(c Class, x int) bool {
	return c.valid() && inNumbers(x) && c.has(x)
}

// ClassMeet returns the class of the numbers that two classes have in common, and true.
func ClassMeet(c Class, d Class) (Class, bool) {
	if !c.valid() || !d.valid() {
		return Class{}, false
	}
	m := commonMultiple(c.Mod, d.Mod)
	if !inModuli(m) {
		return Class{}, false
	}
	for x := range c.numbers(0, m) {
		if d.has(x) {
			return Class{Rest: x, Mod: m}, true
		}
	}
	return Class{}, false
}

// ClassBelow reports whether the second one of two classes has all numbers of the first one.
func ClassBelow(c Class, d Class) bool {
	return c.valid() && d.valid() && c.below(d)
}

// ClassMoved returns the class with a number added to all of its numbers, and true.
func ClassMoved(c Class, x int) (Class, bool) {
	if !c.valid() || !inNumbers(x) {
		return Class{}, false
	}
	return classAt(c.Rest+x, c.Mod), true
}

// ClassScaled returns the class whose numbers are those of a class, each times k, k from 1 on, and true.
func ClassScaled(c Class, k int) (Class, bool) {
	// The quotient tells whether the modulus stays in range, where the product may wrap around.
	if !c.valid() || k < 1 || k > ModMax/c.Mod {
		return Class{}, false
	}
	return Class{Rest: c.Rest * k, Mod: c.Mod * k}, true
}

// ClassParts returns k classes, k from 1 to 12, that have the numbers of a class, each number in one.
func ClassParts(c Class, k int) ([]Class, bool) {
	if !c.valid() || k < 1 || k > partsMax || !inModuli(c.Mod*k) {
		return nil, false
	}
	m := c.Mod * k
	parts := make([]Class, 0, k)
	for x := range c.numbers(0, m) {
		parts = append(parts, Class{Rest: x, Mod: m})
	}
	return parts, true
}

// ClassFirst returns the least number of a class that is not less than a number, and true.
func ClassFirst(c Class, x int) (int, bool) {
	if !c.valid() || !inNumbers(x) {
		return 0, false
	}
	first := c.first(x)
	if !inNumbers(first) {
		return 0, false
	}
	return first, true
}

// ClassCount returns how many numbers from one on and less than another one a class has, and true.
func ClassCount(c Class, a int, b int) (int, bool) {
	if !c.valid() || !inNumbers(a) || !inNumbers(b) {
		return 0, false
	}
	first := c.first(a)
	if first >= b {
		return 0, true
	}
	return (b-1-first)/c.Mod + 1, true
}
