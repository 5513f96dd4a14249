package tests

import (
	"math"
	"slices"
	"testing"

	"loop.example/restcovers/impl"
)

// TestP38 checks promise 38.
func TestP38(t *testing.T) {
	for _, base := range someBases() {
		if !impl.RestIn(base) {
			t.Errorf("%v is a base, and RestIn does not hold", base)
			continue
		}
		r := restsOf(t, base, restSizeOf(t, base)-1)
		if len(r) != len(base) {
			t.Errorf("%v has as many rests as %v", base, r)
			continue
		}
		for i, m := range base {
			if r[i] != m-1 {
				t.Errorf("the last number of %v has the rests %v", base, r)
			}
		}
	}
}

// TestP38Ranges tries all lists of 1 or 2 moduli about their range, and lists of 3, 4 and 5 of some moduli.
func TestP38Ranges(t *testing.T) {
	some := []int{0, 1, 2, 3, 4, 5, 6, 7, 9, 10, 15, 25, 29, 30, 31}
	for m := -3; m <= 34; m++ {
		checkRestIn(t, []int{m})
		for n := -3; n <= 34; n++ {
			checkRestIn(t, []int{m, n})
		}
	}
	for _, m := range some {
		for _, n := range some {
			for _, o := range some {
				checkRestIn(t, []int{m, n, o})
				for _, p := range some {
					checkRestIn(t, []int{m, n, o, p})
					checkRestIn(t, []int{m, n, o, p, 11})
				}
			}
		}
	}
}

func checkRestIn(t *testing.T, list []int) {
	t.Helper()
	in := impl.RestIn(list)
	if in != isBase(list) {
		t.Errorf("RestIn(%v) is %v", list, in)
	}
	if size, ok := impl.RestSize(list); ok != in || ok && size != sizeOf(list) || !ok && size != 0 {
		t.Errorf("RestIn(%v) is %v, and RestSize is %d, %v", list, in, size, ok)
	}
}

func TestP38Invalid(t *testing.T) {
	for _, base := range noBases() {
		if isBase(base) || impl.RestIn(base) {
			t.Errorf("%v is no base, and RestIn is %v", base, impl.RestIn(base))
		}
	}
}

// TestP39 checks promise 39.
func TestP39(t *testing.T) {
	for _, base := range someBases() {
		size := restSizeOf(t, base)
		if want := sizeOf(base); size != want {
			t.Errorf("RestSize(%v) = %d and not %d", base, size, want)
		}
		last := len(base) - 1
		ahead := 1
		if last > 0 {
			ahead = restSizeOf(t, base[:last])
		}
		if size != ahead*base[last] {
			t.Errorf("RestSize(%v) = %d, and without the last modulus it is %d", base, size, ahead)
		}
	}
}

func TestP39Values(t *testing.T) {
	for _, e := range []struct {
		base []int
		size int
	}{
		{[]int{2}, 2}, {[]int{3}, 3}, {[]int{29}, 29}, {[]int{30}, 30},
		{[]int{2, 3}, 6}, {[]int{3, 2}, 6}, {[]int{3, 4}, 12}, {[]int{30, 29}, 870}, {[]int{9, 10}, 90}, {[]int{2, 29}, 58},
		{[]int{2, 3, 5}, 30}, {[]int{30, 7, 11}, 2310}, {[]int{28, 27, 29}, 21924}, {[]int{4, 9, 25}, 900},
		{[]int{2, 3, 5, 7}, 210}, {[]int{7, 5, 3, 2}, 210}, {[]int{30, 29, 23, 19}, 380190}, {[]int{29, 28, 27, 25}, 548100}, {[]int{16, 27, 25, 7}, 75600},
	} {
		if size, ok := impl.RestSize(e.base); !ok || size != e.size {
			t.Errorf("RestSize(%v) = %d, %v", e.base, size, ok)
		}
	}
}

func TestP39Invalid(t *testing.T) {
	for _, base := range noBases() {
		if size, ok := impl.RestSize(base); ok || size != 0 {
			t.Errorf("RestSize(%v) = %d, %v", base, size, ok)
		}
	}
}

// TestP40 checks promise 40.
func TestP40(t *testing.T) {
	for _, base := range someBases() {
		for _, x := range numbersOf(base) {
			r := restsOf(t, base, x)
			if want := restsBySearch(base, x); !slices.Equal(r, want) {
				t.Errorf("RestOf(%v, %d) = %v and not %v", base, x, r, want)
				continue
			}
			if again := numberOf(t, base, r); again != x {
				t.Errorf("RestOf(%v, %d) = %v, and RestNumber of it is %d", base, x, r, again)
			}
		}
	}
}

// TestP40All takes all numbers of the greatest base.
func TestP40All(t *testing.T) {
	for _, base := range [][]int{{29, 28, 27, 25}, {25, 27, 28, 29}} {
		for x := range 548100 {
			r, ok := impl.RestOf(base, x)
			if !ok || r[0] != x%base[0] || r[1] != x%base[1] || r[2] != x%base[2] || r[3] != x%base[3] {
				t.Fatalf("RestOf(%v, %d) = %v, %v", base, x, r, ok)
			}
			if again, ok := impl.RestNumber(base, r); !ok || again != x {
				t.Fatalf("RestNumber(%v, %v) = %d, %v and not %d", base, r, again, ok, x)
			}
		}
	}
}

func TestP40Values(t *testing.T) {
	for _, e := range []struct {
		base  []int
		x     int
		rests []int
	}{
		// The number 0, 1, and the last number of a base.
		{[]int{2}, 0, []int{0}}, {[]int{2}, 1, []int{1}}, {[]int{30}, 0, []int{0}}, {[]int{30}, 29, []int{29}}, {[]int{30}, 17, []int{17}},
		{[]int{3, 4}, 0, []int{0, 0}}, {[]int{3, 4}, 1, []int{1, 1}}, {[]int{3, 4}, 11, []int{2, 3}}, {[]int{4, 3}, 11, []int{3, 2}}, {[]int{2, 3, 5}, 0, []int{0, 0, 0}},
		{[]int{2, 3, 5, 7}, 0, []int{0, 0, 0, 0}}, {[]int{2, 3, 5, 7}, 1, []int{1, 1, 1, 1}}, {[]int{2, 3, 5, 7}, 209, []int{1, 2, 4, 6}}, {[]int{29, 28, 27, 25}, 548099, []int{28, 27, 26, 24}},
		// Numbers between.
		{[]int{3, 4}, 3, []int{0, 3}}, {[]int{3, 4}, 4, []int{1, 0}}, {[]int{3, 4}, 6, []int{0, 2}}, {[]int{3, 5, 7}, 23, []int{2, 3, 2}}, {[]int{2, 3, 5, 7}, 52, []int{0, 1, 2, 3}}, {[]int{7, 5, 3, 2}, 52, []int{3, 2, 1, 0}},
		{[]int{30, 29}, 869, []int{29, 28}}, {[]int{30, 29}, 30, []int{0, 1}}, {[]int{30, 29}, 29, []int{29, 0}}, {[]int{29, 28, 27, 25}, 21924, []int{0, 0, 0, 24}},
	} {
		if r, ok := impl.RestOf(e.base, e.x); !ok || !slices.Equal(r, e.rests) {
			t.Errorf("RestOf(%v, %d) = %v, %v", e.base, e.x, r, ok)
		}
		if x, ok := impl.RestNumber(e.base, e.rests); !ok || x != e.x {
			t.Errorf("RestNumber(%v, %v) = %d, %v", e.base, e.rests, x, ok)
		}
	}
}

func TestP40Invalid(t *testing.T) {
	for _, base := range noBases() {
		for _, x := range []int{0, 1, 2, -1, 5, 29, 30, 1000, math.MinInt, math.MaxInt} {
			if r, ok := impl.RestOf(base, x); ok || len(r) != 0 {
				t.Errorf("RestOf(%v, %d) = %v, %v", base, x, r, ok)
			}
		}
	}
	for _, base := range someBases() {
		for _, x := range noNumbersOf(base) {
			if r, ok := impl.RestOf(base, x); ok || len(r) != 0 {
				t.Errorf("RestOf(%v, %d) = %v, %v", base, x, r, ok)
			}
		}
	}
}

// TestP41 checks promise 41.
func TestP41(t *testing.T) {
	for _, base := range basesUpTo(210) {
		for _, r := range allRests(base) {
			x := numberOf(t, base, r)
			if again := restsOf(t, base, x); !slices.Equal(again, r) {
				t.Errorf("RestNumber(%v, %v) = %d, and RestOf of it is %v", base, r, x, again)
			}
			if more, ok := impl.RestMore(base, r, base[0]); !ok || more != r[0] {
				t.Errorf("RestMore(%v, %v, %d) = %d, %v", base, r, base[0], more, ok)
			}
		}
	}
	for _, base := range greatBases() {
		for i, r := range allRests(base) {
			if i%97 > 0 {
				continue
			}
			x := numberOf(t, base, r)
			if again := restsOf(t, base, x); !slices.Equal(again, r) {
				t.Errorf("RestNumber(%v, %v) = %d, and RestOf of it is %v", base, r, x, again)
			}
			if more, ok := impl.RestMore(base, r, base[0]); !ok || more != r[0] {
				t.Errorf("RestMore(%v, %v, %d) = %d, %v", base, r, base[0], more, ok)
			}
		}
	}
}

func TestP41Search(t *testing.T) {
	for _, base := range append(basesUpTo(42), []int{2, 3, 5, 7}, []int{7, 2, 5, 3}) {
		for _, r := range allRests(base) {
			if x, want := numberOf(t, base, r), numberBySearch(base, r); x != want {
				t.Errorf("RestNumber(%v, %v) = %d and not %d", base, r, x, want)
			}
		}
	}
}

func TestP41Invalid(t *testing.T) {
	for _, base := range noBases() {
		for _, r := range restsOfNone(base) {
			if x, ok := impl.RestNumber(base, r); ok || x != 0 {
				t.Errorf("RestNumber(%v, %v) = %d, %v", base, r, x, ok)
			}
		}
	}
	for _, base := range greatBases() {
		for _, r := range noRests(base) {
			if x, ok := impl.RestNumber(base, r); ok || x != 0 {
				t.Errorf("RestNumber(%v, %v) = %d, %v", base, r, x, ok)
			}
		}
	}
}

// checkTwo checks a function of two lists of rests, which makes with the numbers what want tells.
func checkTwo(t *testing.T, name string, get func(base []int, r []int, u []int) ([]int, bool), want func(x int, y int, size int) int) {
	t.Helper()
	check := func(base []int, x int, y int) {
		size := sizeOf(base)
		r, u := restsBySearch(base, x), restsBySearch(base, y)
		v, ok := get(base, r, u)
		if !ok || !slices.Equal(v, restsBySearch(base, want(x, y, size))) {
			t.Errorf("%s(%v, %v, %v) = %v, %v", name, base, r, u, v, ok)
			return
		}
		if z := numberOf(t, base, v); z != want(x, y, size) {
			t.Errorf("%s(%v, %v, %v) has the number %d and not %d", name, base, r, u, z, want(x, y, size))
		}
	}
	for _, base := range append(basesUpTo(42), []int{2, 3, 5, 7}) {
		for x := range sizeOf(base) {
			for y := range sizeOf(base) {
				check(base, x, y)
			}
		}
	}
	for _, base := range greatBases() {
		numbers := numbersOf(base)
		for i, x := range numbers {
			for _, y := range []int{0, 1, x, sizeOf(base) - 1, (sizeOf(base) - x) % sizeOf(base), numbers[(i*i+7)%len(numbers)], numbers[len(numbers)-1-i]} {
				check(base, x, y)
			}
		}
	}
}

// checkTwoInvalid checks that a function of two lists of rests fails if something is not as told.
func checkTwoInvalid(t *testing.T, name string, get func(base []int, r []int, u []int) ([]int, bool)) {
	t.Helper()
	check := func(base []int, r []int, u []int) {
		if v, ok := get(base, r, u); ok || len(v) != 0 {
			t.Errorf("%s(%v, %v, %v) = %v, %v", name, base, r, u, v, ok)
		}
	}
	eachInvalidTwo(check)
}

// eachInvalidTwo gives out lists of which the first one is no base or one of the others is no rests of it.
func eachInvalidTwo(check func(base []int, r []int, u []int)) {
	for _, base := range noBases() {
		for _, r := range restsOfNone(base) {
			for _, u := range restsOfNone(base) {
				check(base, r, u)
			}
		}
	}
	for _, base := range greatBases() {
		for _, r := range noRests(base) {
			for _, x := range []int{0, 1, sizeOf(base) - 1} {
				check(base, r, restsBySearch(base, x))
				check(base, restsBySearch(base, x), r)
			}
			check(base, r, r)
		}
	}
}

// restsOfNone are lists that would be rests, one for each modulus, if the list were a base.
func restsOfNone(base []int) [][]int {
	ones := slices.Repeat([]int{1}, len(base))
	return [][]int{nil, {0}, {0, 0}, {1, 2, 3, 4}, make([]int, len(base)), ones, slices.Clone(base)}
}

// TestP42 checks promise 42.
func TestP42(t *testing.T) {
	checkTwo(t, "RestAdd", impl.RestAdd, func(x int, y int, size int) int { return (x + y) % size })
}

func TestP42Values(t *testing.T) {
	for _, e := range []struct{ base, r, u, sum []int }{
		// A sum less than the size, just the size, and greater than it.
		{[]int{3, 4}, []int{2, 1}, []int{0, 2}, []int{2, 3}}, {[]int{3, 4}, []int{2, 3}, []int{1, 1}, []int{0, 0}}, {[]int{3, 4}, []int{0, 2}, []int{0, 2}, []int{0, 0}}, {[]int{3, 4}, []int{2, 3}, []int{2, 3}, []int{1, 2}},
		{[]int{2}, []int{0}, []int{0}, []int{0}}, {[]int{2}, []int{0}, []int{1}, []int{1}}, {[]int{2}, []int{1}, []int{1}, []int{0}}, {[]int{30}, []int{15}, []int{15}, []int{0}}, {[]int{30}, []int{15}, []int{14}, []int{29}}, {[]int{30}, []int{29}, []int{29}, []int{28}},
		// The number 0 leaves the other one.
		{[]int{3, 4}, []int{0, 0}, []int{2, 1}, []int{2, 1}}, {[]int{3, 4}, []int{2, 1}, []int{0, 0}, []int{2, 1}}, {[]int{2, 3, 5, 7}, []int{0, 0, 0, 0}, []int{0, 0, 0, 0}, []int{0, 0, 0, 0}},
		{[]int{2, 3, 5, 7}, []int{0, 1, 2, 3}, []int{1, 2, 4, 6}, []int{1, 0, 1, 2}}, {[]int{2, 3, 5, 7}, []int{0, 1, 2, 3}, []int{0, 2, 3, 4}, []int{0, 0, 0, 0}}, {[]int{29, 28, 27, 25}, []int{28, 27, 26, 24}, []int{28, 27, 26, 24}, []int{27, 26, 25, 23}},
	} {
		if v, ok := impl.RestAdd(e.base, e.r, e.u); !ok || !slices.Equal(v, e.sum) {
			t.Errorf("RestAdd(%v, %v, %v) = %v, %v", e.base, e.r, e.u, v, ok)
		}
	}
}

func TestP42Invalid(t *testing.T) {
	checkTwoInvalid(t, "RestAdd", impl.RestAdd)
}

// TestP43 checks promise 43.
func TestP43(t *testing.T) {
	checkTwo(t, "RestTimes", impl.RestTimes, func(x int, y int, size int) int { return x * y % size })
}

func TestP43Values(t *testing.T) {
	for _, e := range []struct{ base, r, u, product []int }{
		// A product less than the size, and greater than it.
		{[]int{3, 4}, []int{2, 2}, []int{2, 1}, []int{1, 2}}, {[]int{3, 4}, []int{2, 3}, []int{2, 3}, []int{1, 1}}, {[]int{3, 5, 7}, []int{2, 3, 2}, []int{2, 3, 2}, []int{1, 4, 4}},
		{[]int{30}, []int{29}, []int{29}, []int{1}}, {[]int{30}, []int{7}, []int{4}, []int{28}}, {[]int{2}, []int{1}, []int{1}, []int{1}},
		// Numbers whose product has the rest 0, though none of them is 0.
		{[]int{3, 4}, []int{0, 3}, []int{1, 0}, []int{0, 0}}, {[]int{3, 4}, []int{0, 2}, []int{0, 2}, []int{0, 0}}, {[]int{30}, []int{5}, []int{6}, []int{0}}, {[]int{2, 3, 5, 7}, []int{0, 1, 0, 3}, []int{1, 0, 1, 0}, []int{0, 0, 0, 0}},
		// 0, and 1, which leaves the other one.
		{[]int{2}, []int{0}, []int{1}, []int{0}}, {[]int{3, 4}, []int{0, 0}, []int{2, 3}, []int{0, 0}}, {[]int{3, 4}, []int{0, 0}, []int{0, 0}, []int{0, 0}}, {[]int{3, 4}, []int{1, 1}, []int{2, 1}, []int{2, 1}}, {[]int{2, 3, 5, 7}, []int{0, 1, 2, 3}, []int{1, 1, 1, 1}, []int{0, 1, 2, 3}},
		{[]int{29, 28, 27, 25}, []int{28, 27, 26, 24}, []int{28, 27, 26, 24}, []int{1, 1, 1, 1}}, {[]int{29, 28, 27, 25}, []int{28, 27, 26, 24}, []int{2, 2, 2, 2}, []int{27, 26, 25, 23}},
	} {
		if v, ok := impl.RestTimes(e.base, e.r, e.u); !ok || !slices.Equal(v, e.product) {
			t.Errorf("RestTimes(%v, %v, %v) = %v, %v", e.base, e.r, e.u, v, ok)
		}
	}
}

func TestP43Invalid(t *testing.T) {
	checkTwoInvalid(t, "RestTimes", impl.RestTimes)
}

// TestP44 checks promise 44.
func TestP44(t *testing.T) {
	for _, base := range someBases() {
		for _, x := range numbersOf(base) {
			r := restsBySearch(base, x)
			digits, ok := impl.RestDigits(base, r)
			if !ok || len(digits) != len(base) {
				t.Errorf("RestDigits(%v, %v) = %v, %v", base, r, digits, ok)
				continue
			}
			total, ahead := 0, 1
			for i, m := range base {
				if digits[i] < 0 || digits[i] >= m {
					t.Errorf("RestDigits(%v, %v) = %v", base, r, digits)
				}
				total += digits[i] * ahead
				ahead *= m
			}
			if number := numberOf(t, base, r); number != total {
				t.Errorf("RestDigits(%v, %v) = %v, which tell %d and not %d", base, r, digits, total, number)
			}
		}
	}
}

// TestP44Counts counts on from 0 to the last number.
func TestP44Counts(t *testing.T) {
	for _, base := range append(basesUpTo(210), []int{30, 29}, []int{8, 9, 5, 7}, []int{7, 5, 9, 8}) {
		want := make([]int, len(base))
		for x := range sizeOf(base) {
			if digits, ok := impl.RestDigits(base, restsBySearch(base, x)); !ok || !slices.Equal(digits, want) {
				t.Errorf("RestDigits of the number %d of %v is %v, %v and not %v", x, base, digits, ok, want)
			}
			countOn(base, want)
		}
	}
}

func TestP44Values(t *testing.T) {
	for _, e := range []struct{ base, r, digits []int }{
		{[]int{2}, []int{0}, []int{0}}, {[]int{2}, []int{1}, []int{1}}, {[]int{30}, []int{29}, []int{29}}, {[]int{3, 4}, []int{0, 0}, []int{0, 0}}, {[]int{2, 3, 5, 7}, []int{0, 0, 0, 0}, []int{0, 0, 0, 0}},
		{[]int{3, 4}, []int{2, 3}, []int{2, 3}}, {[]int{4, 3}, []int{3, 2}, []int{3, 2}}, {[]int{3, 4}, []int{0, 3}, []int{0, 1}}, {[]int{3, 4}, []int{2, 2}, []int{2, 0}},
		{[]int{2, 3, 5, 7}, []int{0, 1, 2, 3}, []int{0, 2, 3, 1}}, {[]int{7, 5, 3, 2}, []int{3, 2, 1, 0}, []int{3, 2, 1, 0}}, {[]int{2, 3, 5, 7}, []int{1, 2, 4, 6}, []int{1, 2, 4, 6}}, {[]int{2, 3, 5, 7}, []int{1, 1, 1, 1}, []int{1, 0, 0, 0}},
		{[]int{29, 28, 27, 25}, []int{28, 27, 26, 24}, []int{28, 27, 26, 24}}, {[]int{29, 28, 27, 25}, []int{0, 1, 2, 4}, []int{0, 1, 0, 0}}, {[]int{29, 28, 27, 25}, []int{0, 0, 2, 12}, []int{0, 0, 1, 0}}, {[]int{29, 28, 27, 25}, []int{0, 0, 0, 24}, []int{0, 0, 0, 1}},
	} {
		if digits, ok := impl.RestDigits(e.base, e.r); !ok || !slices.Equal(digits, e.digits) {
			t.Errorf("RestDigits(%v, %v) = %v, %v", e.base, e.r, digits, ok)
		}
	}
}

func TestP44Invalid(t *testing.T) {
	for _, base := range noBases() {
		for _, r := range restsOfNone(base) {
			if digits, ok := impl.RestDigits(base, r); ok || len(digits) != 0 {
				t.Errorf("RestDigits(%v, %v) = %v, %v", base, r, digits, ok)
			}
		}
	}
	for _, base := range greatBases() {
		for _, r := range noRests(base) {
			if digits, ok := impl.RestDigits(base, r); ok || len(digits) != 0 {
				t.Errorf("RestDigits(%v, %v) = %v, %v", base, r, digits, ok)
			}
		}
	}
}

// TestP45 checks promise 45.
func TestP45(t *testing.T) {
	check := func(base []int, x int, y int) {
		r, u := restsBySearch(base, x), restsBySearch(base, y)
		less := impl.RestLess(base, r, u)
		if less != (x < y) {
			t.Errorf("RestLess(%v, %v, %v) is %v for the numbers %d and %d", base, r, u, less, x, y)
		}
		if less && numberOf(t, base, r) >= numberOf(t, base, u) {
			t.Errorf("RestLess(%v, %v, %v) holds, and not for RestNumber", base, r, u)
		}
	}
	for _, base := range append(basesUpTo(42), []int{2, 3, 5, 7}) {
		for x := range sizeOf(base) {
			for y := range sizeOf(base) {
				check(base, x, y)
			}
		}
	}
	for _, base := range greatBases() {
		numbers := numbersOf(base)
		for i, x := range numbers {
			for _, y := range []int{0, x, sizeOf(base) - 1, numbers[(i+1)%len(numbers)], numbers[(i*i+7)%len(numbers)], numbers[len(numbers)-1-i]} {
				check(base, x, y)
				check(base, y, x)
			}
		}
	}
}

func TestP45Values(t *testing.T) {
	for _, e := range []struct {
		base, r, u []int
		less       bool
	}{
		{[]int{2}, []int{0}, []int{1}, true}, {[]int{2}, []int{1}, []int{0}, false}, {[]int{2}, []int{0}, []int{0}, false}, {[]int{30}, []int{28}, []int{29}, true},
		// The lists of rests, compared as lists, have another order.
		{[]int{3, 4}, []int{2, 2}, []int{0, 3}, true}, {[]int{3, 4}, []int{2, 1}, []int{0, 3}, false}, {[]int{3, 4}, []int{0, 1}, []int{2, 0}, false}, {[]int{3, 4}, []int{2, 0}, []int{0, 1}, true},
		{[]int{3, 4}, []int{0, 0}, []int{1, 1}, true}, {[]int{3, 4}, []int{2, 3}, []int{2, 3}, false}, {[]int{3, 4}, []int{2, 3}, []int{0, 0}, false}, {[]int{2, 3, 5, 7}, []int{0, 1, 2, 3}, []int{1, 2, 3, 4}, true}, {[]int{2, 3, 5, 7}, []int{1, 2, 3, 4}, []int{0, 1, 2, 3}, false},
	} {
		if less := impl.RestLess(e.base, e.r, e.u); less != e.less {
			t.Errorf("RestLess(%v, %v, %v) is %v", e.base, e.r, e.u, less)
		}
	}
}

func TestP45Invalid(t *testing.T) {
	eachInvalidTwo(func(base []int, r []int, u []int) {
		if impl.RestLess(base, r, u) {
			t.Errorf("RestLess(%v, %v, %v) holds", base, r, u)
		}
	})
}

// TestP46 checks promise 46.
func TestP46(t *testing.T) {
	for _, base := range slices.Concat(basesUpTo(12), greatBases()) {
		for i, x := range numbersOf(base) {
			r := restsBySearch(base, x)
			number := numberOf(t, base, r)
			for m := 1 + i%3; m <= 1000; m += 3 {
				more, ok := impl.RestMore(base, r, m)
				if !ok || more < 0 || more >= m || (number-more)%m != 0 {
					t.Errorf("RestMore(%v, %v, %d) = %d, %v for the number %d", base, r, m, more, ok, number)
				}
			}
		}
	}
}

func TestP46Values(t *testing.T) {
	eleven, last := []int{2, 3}, []int{28, 27, 26, 24}
	for _, e := range []struct {
		base, r []int
		m, more int
	}{
		{[]int{3, 4}, eleven, 1, 0}, {[]int{3, 4}, eleven, 2, 1}, {[]int{3, 4}, eleven, 3, 2}, {[]int{3, 4}, eleven, 4, 3}, {[]int{3, 4}, eleven, 5, 1}, {[]int{3, 4}, eleven, 10, 1}, {[]int{3, 4}, eleven, 11, 0}, {[]int{3, 4}, eleven, 12, 11}, {[]int{3, 4}, eleven, 31, 11}, {[]int{3, 4}, eleven, 1000, 11},
		{[]int{2}, []int{0}, 1, 0}, {[]int{2}, []int{0}, 1000, 0}, {[]int{2}, []int{1}, 1, 0}, {[]int{2}, []int{1}, 2, 1}, {[]int{2}, []int{1}, 1000, 1}, {[]int{30}, []int{29}, 29, 0}, {[]int{30}, []int{29}, 28, 1}, {[]int{2, 3, 5, 7}, []int{0, 0, 0, 0}, 1000, 0}, {[]int{2, 3, 5, 7}, []int{1, 2, 4, 6}, 11, 0},
		{[]int{29, 28, 27, 25}, last, 1, 0}, {[]int{29, 28, 27, 25}, last, 25, 24}, {[]int{29, 28, 27, 25}, last, 997, 746}, {[]int{29, 28, 27, 25}, last, 999, 647}, {[]int{29, 28, 27, 25}, last, 1000, 99},
	} {
		if more, ok := impl.RestMore(e.base, e.r, e.m); !ok || more != e.more {
			t.Errorf("RestMore(%v, %v, %d) = %d, %v", e.base, e.r, e.m, more, ok)
		}
	}
}

func TestP46Invalid(t *testing.T) {
	moduli := append(noModuli(), 1, 2, 1000)
	for _, base := range noBases() {
		for _, r := range restsOfNone(base) {
			for _, m := range moduli {
				if more, ok := impl.RestMore(base, r, m); ok || more != 0 {
					t.Errorf("RestMore(%v, %v, %d) = %d, %v", base, r, m, more, ok)
				}
			}
		}
	}
	for _, base := range greatBases() {
		for _, r := range noRests(base) {
			for _, m := range moduli {
				if more, ok := impl.RestMore(base, r, m); ok || more != 0 {
					t.Errorf("RestMore(%v, %v, %d) = %d, %v", base, r, m, more, ok)
				}
			}
		}
		for _, x := range []int{0, 1, sizeOf(base) - 1} {
			for _, m := range noModuli() {
				r := restsBySearch(base, x)
				if more, ok := impl.RestMore(base, r, m); ok || more != 0 {
					t.Errorf("RestMore(%v, %v, %d) = %d, %v", base, r, m, more, ok)
				}
			}
		}
	}
}

// TestP47 checks promise 47.
func TestP47(t *testing.T) {
	did, failed := 0, 0
	check := func(base []int, r []int) {
		back, ok := impl.RestBack(base, r)
		if !ok {
			failed++
			if len(back) != 0 {
				t.Errorf("RestBack(%v, %v) = %v, %v", base, r, back, ok)
			}
			return
		}
		did++
		if product, ok := impl.RestTimes(base, r, back); !ok || !slices.Equal(product, restsOf(t, base, 1)) {
			t.Errorf("RestBack(%v, %v) = %v, and the product of both is %v, %v", base, r, back, product, ok)
		}
		if again, ok := impl.RestBack(base, back); !ok || !slices.Equal(again, r) {
			t.Errorf("RestBack(%v, %v) = %v, which leads to %v, %v", base, r, back, again, ok)
		}
	}
	for _, base := range someBases() {
		for _, x := range numbersOf(base) {
			check(base, restsBySearch(base, x))
		}
	}
	if did == 0 || failed == 0 {
		t.Errorf("%d times, RestBack succeeds, and %d times, it fails", did, failed)
	}
}

func TestP47Search(t *testing.T) {
	for _, base := range append(basesUpTo(90), []int{2, 3, 5, 7}, []int{5, 3, 7, 2}, []int{30, 29}, []int{25, 24}) {
		size := sizeOf(base)
		for x := range size {
			r := restsBySearch(base, x)
			back, ok := impl.RestBack(base, r)
			y := backBySearch(size, x)
			if ok != (y >= 0) || ok && !slices.Equal(back, restsBySearch(base, y)) {
				t.Errorf("RestBack(%v, %v) = %v, %v for the number %d, and %d leads back", base, r, back, ok, x, y)
			}
		}
	}
}

func TestP47Values(t *testing.T) {
	for _, e := range []struct{ base, r, back []int }{
		// 1 goes back to itself, and so does the last number.
		{[]int{2}, []int{1}, []int{1}}, {[]int{30}, []int{1}, []int{1}}, {[]int{3, 4}, []int{1, 1}, []int{1, 1}}, {[]int{2, 3, 5, 7}, []int{1, 1, 1, 1}, []int{1, 1, 1, 1}}, {[]int{29, 28, 27, 25}, []int{1, 1, 1, 1}, []int{1, 1, 1, 1}},
		{[]int{30}, []int{29}, []int{29}}, {[]int{3, 4}, []int{2, 3}, []int{2, 3}}, {[]int{29, 28, 27, 25}, []int{28, 27, 26, 24}, []int{28, 27, 26, 24}},
		{[]int{3, 4}, []int{2, 1}, []int{2, 1}}, {[]int{3, 4}, []int{1, 3}, []int{1, 3}}, {[]int{7}, []int{3}, []int{5}}, {[]int{30}, []int{7}, []int{13}}, {[]int{30}, []int{13}, []int{7}}, {[]int{2, 3, 5, 7}, []int{1, 2, 1, 4}, []int{1, 2, 1, 2}}, {[]int{29, 28, 27, 25}, []int{2, 3, 2, 2}, []int{15, 19, 14, 13}},
	} {
		if back, ok := impl.RestBack(e.base, e.r); !ok || !slices.Equal(back, e.back) {
			t.Errorf("RestBack(%v, %v) = %v, %v", e.base, e.r, back, ok)
		}
	}
}

// TestP47Fails names numbers that share a divisor with the size: with each modulus alone, with all of them, and with a part of one.
func TestP47Fails(t *testing.T) {
	for _, e := range []struct{ base, r []int }{
		{[]int{2}, []int{0}}, {[]int{30}, []int{0}}, {[]int{3, 4}, []int{0, 0}}, {[]int{2, 3, 5, 7}, []int{0, 0, 0, 0}}, {[]int{29, 28, 27, 25}, []int{0, 0, 0, 0}},
		{[]int{3, 4}, []int{0, 1}}, {[]int{3, 4}, []int{1, 0}}, {[]int{3, 4}, []int{1, 2}}, {[]int{3, 4}, []int{0, 3}}, {[]int{30}, []int{6}}, {[]int{30}, []int{25}}, {[]int{30}, []int{28}}, {[]int{4}, []int{2}},
		{[]int{2, 3, 5, 7}, []int{0, 1, 1, 1}}, {[]int{2, 3, 5, 7}, []int{1, 0, 1, 1}}, {[]int{2, 3, 5, 7}, []int{1, 1, 0, 1}}, {[]int{2, 3, 5, 7}, []int{1, 1, 1, 0}},
		{[]int{29, 28, 27, 25}, []int{1, 1, 1, 5}}, {[]int{29, 28, 27, 25}, []int{1, 1, 9, 1}}, {[]int{29, 28, 27, 25}, []int{1, 7, 1, 1}}, {[]int{29, 28, 27, 25}, []int{0, 1, 1, 1}},
	} {
		if back, ok := impl.RestBack(e.base, e.r); ok || len(back) != 0 {
			t.Errorf("RestBack(%v, %v) = %v, %v", e.base, e.r, back, ok)
		}
	}
}

func TestP47Invalid(t *testing.T) {
	for _, base := range noBases() {
		for _, r := range restsOfNone(base) {
			if back, ok := impl.RestBack(base, r); ok || len(back) != 0 {
				t.Errorf("RestBack(%v, %v) = %v, %v", base, r, back, ok)
			}
		}
	}
	for _, base := range greatBases() {
		for _, r := range noRests(base) {
			if back, ok := impl.RestBack(base, r); ok || len(back) != 0 {
				t.Errorf("RestBack(%v, %v) = %v, %v", base, r, back, ok)
			}
		}
	}
}

// callRests calls each function of the chapter.
func callRests(base []int, r []int, u []int) {
	impl.RestIn(base)
	impl.RestSize(base)
	impl.RestOf(base, 1)
	impl.RestNumber(base, r)
	impl.RestAdd(base, r, u)
	impl.RestTimes(base, r, u)
	impl.RestDigits(base, r)
	impl.RestLess(base, r, u)
	impl.RestMore(base, r, 7)
	impl.RestBack(base, r)
}

func TestRestsLeaveArguments(t *testing.T) {
	check := func(base []int, r []int, u []int) {
		// What lies behind the lists stays, too.
		lists := [3][]int{slices.Concat(base, []int{77, 78, 79, 80}), slices.Concat(r, []int{81, 82, 83, 84}), slices.Concat(u, []int{85, 86, 87, 88})}
		before := [3][]int{slices.Clone(lists[0]), slices.Clone(lists[1]), slices.Clone(lists[2])}
		callRests(lists[0][:len(base)], lists[1][:len(r)], lists[2][:len(u)])
		for i := range lists {
			if !slices.Equal(lists[i], before[i]) {
				t.Errorf("%v has become %v", before[i], lists[i])
			}
		}
	}
	for _, base := range someBases() {
		size := sizeOf(base)
		for _, x := range []int{0, 1, size / 2, size - 1} {
			check(base, restsBySearch(base, x), restsBySearch(base, size-1-x))
		}
	}
	for _, base := range greatBases() {
		for _, r := range noRests(base) {
			check(base, r, restsBySearch(base, 1))
			check(base, restsBySearch(base, 1), r)
		}
	}
	for _, base := range noBases() {
		for _, r := range restsOfNone(base) {
			check(base, r, r)
		}
	}
}

// TestRestsOneList passes one list as both of the rests, and a base that has the same memory as its rests.
func TestRestsOneList(t *testing.T) {
	r := []int{2, 3}
	if v, ok := impl.RestAdd([]int{3, 4}, r, r); !ok || !slices.Equal(v, []int{1, 2}) {
		t.Errorf("RestAdd of one list is %v, %v", v, ok)
	}
	if v, ok := impl.RestTimes([]int{3, 4}, r, r); !ok || !slices.Equal(v, []int{1, 1}) {
		t.Errorf("RestTimes of one list is %v, %v", v, ok)
	}
	if impl.RestLess([]int{3, 4}, r, r) {
		t.Errorf("RestLess of one list holds")
	}
	if !slices.Equal(r, []int{2, 3}) {
		t.Errorf("[2 3] has become %v", r)
	}
	both := []int{5, 3, 4, 2}
	if v, ok := impl.RestAdd(both[:2], both[2:], []int{4, 2}); !ok || !slices.Equal(v, []int{3, 1}) || !slices.Equal(both, []int{5, 3, 4, 2}) {
		t.Errorf("RestAdd with a base and rests in one list is %v, %v, and the list %v", v, ok, both)
	}
	if x, ok := impl.RestNumber([]int{7}, []int{7}[:0]); ok || x != 0 {
		t.Errorf("RestNumber looks behind the end of a list: %d, %v", x, ok)
	}
}

// checkNew changes a result and appends to it: neither the arguments nor a later result change.
func checkNew(t *testing.T, name string, lists [][]int, get func() ([]int, bool), want []int) {
	t.Helper()
	var before [][]int
	for _, list := range lists {
		before = append(before, slices.Clone(list))
	}
	first, _ := get()
	second, ok := get()
	if !ok || !slices.Equal(first, want) || !slices.Equal(second, want) {
		t.Fatalf("%s is %v, and then %v, %v", name, first, second, ok)
	}
	for i := range first {
		_ = append(first[:i], 77)
	}
	_ = append(first, 77)
	again, _ := get()
	if !slices.Equal(second, want) || !slices.Equal(again, want) {
		t.Errorf("%s changed with an earlier result: %v and %v", name, second, again)
	}
	for i := range lists {
		if !slices.Equal(lists[i], before[i]) {
			t.Errorf("an argument of %s changed with its result: %v has become %v", name, before[i], lists[i])
		}
	}
}

func TestP40SharesNothing(t *testing.T) {
	base := []int{3, 4, 9}
	checkNew(t, "RestOf", [][]int{base}, func() ([]int, bool) { return impl.RestOf(base[:2], 11) }, []int{2, 3})
}

// TestP42SharesNothing also takes 0, with which the sum is one of the arguments.
func TestP42SharesNothing(t *testing.T) {
	base, r, u, zero := []int{3, 4, 9}, []int{2, 3, 9}, []int{1, 2, 9}, []int{0, 0, 9}
	lists := [][]int{base, r, u, zero}
	checkNew(t, "RestAdd", lists, func() ([]int, bool) { return impl.RestAdd(base[:2], r[:2], u[:2]) }, []int{0, 1})
	checkNew(t, "RestAdd", lists, func() ([]int, bool) { return impl.RestAdd(base[:2], r[:2], zero[:2]) }, []int{2, 3})
	checkNew(t, "RestAdd", lists, func() ([]int, bool) { return impl.RestAdd(base[:2], zero[:2], r[:2]) }, []int{2, 3})
}

// TestP43SharesNothing also takes 0 and 1, with which the product is one of the arguments.
func TestP43SharesNothing(t *testing.T) {
	base, r, one, zero := []int{3, 4, 9}, []int{2, 3, 9}, []int{1, 1, 9}, []int{0, 0, 9}
	lists := [][]int{base, r, one, zero}
	checkNew(t, "RestTimes", lists, func() ([]int, bool) { return impl.RestTimes(base[:2], r[:2], one[:2]) }, []int{2, 3})
	checkNew(t, "RestTimes", lists, func() ([]int, bool) { return impl.RestTimes(base[:2], one[:2], r[:2]) }, []int{2, 3})
	checkNew(t, "RestTimes", lists, func() ([]int, bool) { return impl.RestTimes(base[:2], r[:2], zero[:2]) }, []int{0, 0})
}

// TestP44SharesNothing takes a base of one modulus, too: there the digits are the rests.
func TestP44SharesNothing(t *testing.T) {
	base, r := []int{3, 4, 9}, []int{2, 3, 9}
	checkNew(t, "RestDigits", [][]int{base, r}, func() ([]int, bool) { return impl.RestDigits(base[:2], r[:2]) }, []int{2, 3})
	checkNew(t, "RestDigits", [][]int{base, r}, func() ([]int, bool) { return impl.RestDigits(base[:1], r[:1]) }, []int{2})
}

// TestP47SharesNothing takes a number that goes back to itself, and others.
func TestP47SharesNothing(t *testing.T) {
	base, r, three := []int{3, 4, 9}, []int{2, 3, 9}, []int{3, 7}
	checkNew(t, "RestBack", [][]int{base, r}, func() ([]int, bool) { return impl.RestBack(base[:2], r[:2]) }, []int{2, 3})
	seven := []int{7, 9}
	checkNew(t, "RestBack", [][]int{seven, three}, func() ([]int, bool) { return impl.RestBack(seven[:1], three[:1]) }, []int{5})
}
