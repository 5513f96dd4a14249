package tests

import (
	"math"
	"slices"
	"testing"

	"loop.example/restcovers/impl"
)

func TestModMax(t *testing.T) {
	if impl.ModMax != 1000 {
		t.Errorf("ModMax is %d", impl.ModMax)
	}
}

// TestP1 checks promise 1.
func TestP1(t *testing.T) {
	for m := 1; m <= 1000; m++ {
		for _, r := range []int{0, m / 3, m / 2, m - 1} {
			c := pair(r, m)
			if !impl.ClassIn(c) {
				t.Fatalf("ClassIn(%v) does not hold", c)
			}
			if !impl.ClassHas(c, r) {
				t.Errorf("ClassHas(%v, %d) does not hold", c, r)
			}
			if d, ok := impl.ClassOf(r, m); !ok || d != c {
				t.Errorf("ClassOf(%d, %d) = %v, %v", r, m, d, ok)
			}
			if !impl.ClassBelow(c, c) {
				t.Errorf("%v is not below itself", c)
			}
		}
	}
}

func TestP1Ranges(t *testing.T) {
	for m := -4; m <= 1004; m++ {
		for r := -4; r <= 1004; r++ {
			if c := pair(r, m); impl.ClassIn(c) != isClass(c) {
				t.Errorf("ClassIn(%v) = %v", c, impl.ClassIn(c))
			}
		}
	}
	for _, c := range noClasses() {
		if impl.ClassIn(c) {
			t.Errorf("ClassIn(%v) holds", c)
		}
		if impl.ClassHas(c, c.Rest) || impl.ClassHas(c, 0) {
			t.Errorf("ClassHas of %v holds", c)
		}
		if impl.ClassBelow(c, c) {
			t.Errorf("%v is below itself", c)
		}
	}
}

// TestP2 checks promise 2.
func TestP2(t *testing.T) {
	for _, x := range someNumbers() {
		for m := 1; m <= 1000; m++ {
			c, ok := impl.ClassOf(x, m)
			if !ok || !isClass(c) || c.Mod != m || !inClass(c, x) {
				t.Fatalf("ClassOf(%d, %d) = %v, %v", x, m, c, ok)
			}
			if !impl.ClassHas(c, x) {
				t.Fatalf("ClassHas(%v, %d) does not hold", c, x)
			}
		}
	}
}

func TestP2Values(t *testing.T) {
	for _, e := range []struct{ x, m, rest int }{
		{0, 1, 0}, {7, 1, 0}, {-7, 1, 0}, {7, 5, 2}, {-1, 5, 4}, {-5, 5, 0}, {-6, 5, 4}, {-7, 3, 2},
		{-1, 1000, 999}, {1000, 1000, 0}, {-1000, 1000, 0}, {-1001, 1000, 999}, {1000000, 999, 1}, {-1000000, 999, 998},
	} {
		if c, ok := impl.ClassOf(e.x, e.m); !ok || c != pair(e.rest, e.m) {
			t.Errorf("ClassOf(%d, %d) = %v, %v", e.x, e.m, c, ok)
		}
	}
}

func TestP2Invalid(t *testing.T) {
	for _, m := range noModuli() {
		for _, x := range []int{0, 5, -5, m} {
			if c, ok := impl.ClassOf(x, m); ok || c != (class{}) {
				t.Errorf("ClassOf(%d, %d) = %v, %v", x, m, c, ok)
			}
		}
	}
	for _, x := range noNumbers() {
		for _, m := range []int{1, 2, 7, 1000} {
			if c, ok := impl.ClassOf(x, m); ok || c != (class{}) {
				t.Errorf("ClassOf(%d, %d) = %v, %v", x, m, c, ok)
			}
		}
	}
}

// TestP3 checks promise 3.
func TestP3(t *testing.T) {
	for _, c := range someClasses() {
		for _, y := range someNumbers() {
			x := y + (c.Rest-y)%c.Mod
			if x < -990000 || x > 990000 || !impl.ClassHas(c, x) {
				continue
			}
			if !impl.ClassHas(c, x+c.Mod) {
				t.Errorf("%v has %d, but not the modulus more", c, x)
			}
			if c.Mod > 1 && impl.ClassHas(c, x+1) {
				t.Errorf("%v has %d and 1 more", c, x)
			}
		}
	}
}

func TestP3Numbers(t *testing.T) {
	for _, c := range someClasses() {
		for _, x := range someNumbers() {
			if impl.ClassHas(c, x) != inClass(c, x) {
				t.Errorf("ClassHas(%v, %d) = %v", c, x, impl.ClassHas(c, x))
			}
		}
		for x := -2100; x <= 2100; x++ {
			if impl.ClassHas(c, x) != inClass(c, x) {
				t.Errorf("ClassHas(%v, %d) = %v", c, x, impl.ClassHas(c, x))
			}
		}
	}
}

func TestP3Invalid(t *testing.T) {
	for _, x := range noNumbers() {
		for m := 1; m <= 4; m++ {
			for r := range m {
				if impl.ClassHas(pair(r, m), x) {
					t.Errorf("ClassHas of %d by %d holds for %d", r, m, x)
				}
			}
		}
	}
	for _, c := range noClasses() {
		for _, x := range append(someNumbers(), noNumbers()...) {
			if impl.ClassHas(c, x) {
				t.Errorf("ClassHas(%v, %d) holds", c, x)
			}
		}
	}
}

// TestP4 checks promise 4.
func TestP4(t *testing.T) {
	list := append(someClasses(), smallClasses(15)...)
	for _, c := range list {
		for _, d := range list {
			e, ok := impl.ClassMeet(c, d)
			if f, okToo := impl.ClassMeet(d, c); f != e || ok != okToo {
				t.Errorf("ClassMeet(%v, %v) is %v, %v, and %v, %v exchanged", c, d, e, ok, f, okToo)
			}
			if !ok {
				continue
			}
			if !impl.ClassBelow(e, c) || !impl.ClassBelow(e, d) {
				t.Errorf("ClassMeet(%v, %v) = %v is not below both", c, d, e)
			}
			if (e == c) != impl.ClassBelow(c, d) {
				t.Errorf("ClassMeet(%v, %v) = %v, and ClassBelow of both is %v", c, d, e, impl.ClassBelow(c, d))
			}
		}
	}
}

// meetBySearch looks for common numbers in the first 1000, and for the one behind them.
func meetBySearch(c class, d class) (class, bool) {
	first := -1
	for x := 0; x <= 2000; x++ {
		if !inClass(c, x) || !inClass(d, x) {
			continue
		}
		if first < 0 {
			first = x
		} else if e := pair(first, x-first); isClass(e) {
			return e, true
		} else {
			return class{}, false
		}
	}
	return class{}, false
}

func TestP4Search(t *testing.T) {
	list := append(smallClasses(12), pair(17, 30), pair(20, 31), pair(32, 33), pair(99, 100),
		pair(124, 125), pair(1, 500), pair(3, 997), pair(0, 1000), pair(999, 1000))
	for _, c := range list {
		for _, d := range list {
			want, found := meetBySearch(c, d)
			if e, ok := impl.ClassMeet(c, d); ok != found || e != want {
				t.Errorf("ClassMeet(%v, %v) = %v, %v and not %v, %v", c, d, e, ok, want, found)
			}
		}
	}
}

func TestP4Values(t *testing.T) {
	for _, e := range []struct{ c, d, meet class }{
		{pair(1, 4), pair(3, 6), pair(9, 12)},
		{pair(0, 1), pair(0, 1), pair(0, 1)},
		{pair(0, 1), pair(999, 1000), pair(999, 1000)},
		{pair(7, 8), pair(124, 125), pair(999, 1000)},
		{pair(500, 1000), pair(0, 500), pair(500, 1000)},
		{pair(1, 2), pair(2, 3), pair(5, 6)},
		// Without common numbers.
		{pair(0, 2), pair(1, 2), class{}},
		{pair(1, 4), pair(2, 6), class{}},
		{pair(0, 1000), pair(1, 1000), class{}},
		// With common numbers, but a modulus that is too great.
		{pair(0, 999), pair(0, 1000), class{}},
		{pair(0, 7), pair(0, 143), class{}},
		{pair(0, 2), pair(0, 501), class{}},
		{pair(0, 16), pair(0, 125), class{}},
	} {
		if m, ok := impl.ClassMeet(e.c, e.d); m != e.meet || ok != (e.meet.Mod > 0) {
			t.Errorf("ClassMeet(%v, %v) = %v, %v", e.c, e.d, m, ok)
		}
	}
}

func TestP4Invalid(t *testing.T) {
	for _, n := range noClasses() {
		for _, c := range append(smallClasses(3), n, pair(999, 1000)) {
			if e, ok := impl.ClassMeet(n, c); ok || e != (class{}) {
				t.Errorf("ClassMeet(%v, %v) = %v, %v", n, c, e, ok)
			}
			if e, ok := impl.ClassMeet(c, n); ok || e != (class{}) {
				t.Errorf("ClassMeet(%v, %v) = %v, %v", c, n, e, ok)
			}
		}
	}
}

// TestP5 checks promise 5.
func TestP5(t *testing.T) {
	list := append(someClasses(), smallClasses(12)...)
	for _, c := range list {
		for _, d := range list {
			if !impl.ClassBelow(c, d) {
				continue
			}
			if c.Mod%d.Mod != 0 {
				t.Errorf("%v is below %v", c, d)
			}
			e, ok := impl.ClassMoved(c, 5)
			f, okToo := impl.ClassMoved(d, 5)
			if !ok || !okToo || !impl.ClassBelow(e, f) {
				t.Errorf("%v is below %v, but %v not below %v", c, d, e, f)
			}
		}
	}
}

// belowBySearch looks at the numbers of the first class in two rounds of the second one's modulus, negative ones among them.
func belowBySearch(c class, d class) bool {
	for i := -d.Mod; i <= d.Mod; i++ {
		if !inClass(d, c.Rest+i*c.Mod) {
			return false
		}
	}
	return true
}

func TestP5Search(t *testing.T) {
	list := append(smallClasses(16), pair(99, 100), pair(499, 500), pair(500, 1000), pair(999, 1000))
	for _, c := range list {
		for _, d := range list {
			if impl.ClassBelow(c, d) != belowBySearch(c, d) {
				t.Errorf("ClassBelow(%v, %v) = %v", c, d, impl.ClassBelow(c, d))
			}
		}
	}
}

func TestP5Invalid(t *testing.T) {
	for _, n := range noClasses() {
		for _, c := range append(someClasses(), noClasses()...) {
			if impl.ClassBelow(n, c) || impl.ClassBelow(c, n) {
				t.Errorf("ClassBelow holds of %v and %v", n, c)
			}
		}
	}
}

// TestP6 checks promise 6.
func TestP6(t *testing.T) {
	for _, c := range someClasses() {
		for _, x := range someNumbers() {
			d, ok := impl.ClassMoved(c, x)
			if !ok || !isClass(d) || d.Mod != c.Mod || !inClass(d, c.Rest+x) {
				t.Fatalf("ClassMoved(%v, %d) = %v, %v", c, x, d, ok)
			}
			if e, ok := impl.ClassMoved(d, -x); !ok || e != c {
				t.Errorf("%v moved by %d and back is %v, %v", c, x, e, ok)
			}
		}
	}
}

func TestP6Values(t *testing.T) {
	for _, e := range []struct {
		c     class
		x     int
		moved class
	}{
		{pair(2, 5), 0, pair(2, 5)}, {pair(2, 5), 4, pair(1, 5)}, {pair(2, 5), -3, pair(4, 5)}, {pair(2, 5), -2, pair(0, 5)},
		{pair(2, 5), -12, pair(0, 5)}, {pair(0, 1), 77, pair(0, 1)}, {pair(0, 1), -77, pair(0, 1)},
		{pair(999, 1000), 1, pair(0, 1000)}, {pair(0, 1000), -1, pair(999, 1000)},
		{pair(0, 999), 1000000, pair(1, 999)}, {pair(0, 999), -1000000, pair(998, 999)},
	} {
		if d, ok := impl.ClassMoved(e.c, e.x); !ok || d != e.moved {
			t.Errorf("ClassMoved(%v, %d) = %v, %v", e.c, e.x, d, ok)
		}
	}
}

func TestP6Invalid(t *testing.T) {
	for _, n := range noClasses() {
		for _, x := range append(someNumbers(), noNumbers()...) {
			if d, ok := impl.ClassMoved(n, x); ok || d != (class{}) {
				t.Errorf("ClassMoved(%v, %d) = %v, %v", n, x, d, ok)
			}
		}
	}
	for _, c := range someClasses() {
		for _, x := range noNumbers() {
			if d, ok := impl.ClassMoved(c, x); ok || d != (class{}) {
				t.Errorf("ClassMoved(%v, %d) = %v, %v", c, x, d, ok)
			}
		}
	}
}

// TestP7 checks promise 7.
func TestP7(t *testing.T) {
	for _, c := range someClasses() {
		for k := 1; k <= 1002; k++ {
			d, ok := impl.ClassScaled(c, k)
			if ok != (c.Mod*k <= 1000) {
				t.Fatalf("ClassScaled(%v, %d) = %v, %v", c, k, d, ok)
			}
			if !ok {
				if d != (class{}) {
					t.Errorf("ClassScaled(%v, %d) fails with %v", c, k, d)
				}
				continue
			}
			if d != pair(c.Rest*k, c.Mod*k) {
				t.Errorf("ClassScaled(%v, %d) = %v", c, k, d)
			}
			if !impl.ClassHas(d, k*c.Rest) || !impl.ClassBelow(d, pair(0, k)) {
				t.Errorf("ClassScaled(%v, %d) = %v has not %d or is not below the multiples", c, k, d, k*c.Rest)
			}
		}
	}
}

func TestP7Numbers(t *testing.T) {
	for _, c := range smallClasses(6) {
		for k := 1; k <= 5; k++ {
			d, _ := impl.ClassScaled(c, k)
			for x := -200; x <= 200; x++ {
				if impl.ClassHas(d, x) != (x%k == 0 && inClass(c, x/k)) {
					t.Errorf("ClassScaled(%v, %d) = %v is wrong of %d", c, k, d, x)
				}
			}
		}
	}
}

func TestP7Invalid(t *testing.T) {
	// The last three wrap around to a modulus in range: the first one times 2 or 4, the others times 4.
	for _, k := range []int{0, -1, -2, -1000, math.MinInt, math.MaxInt, math.MinInt + 1, math.MaxInt/2 + 2, math.MinInt/2 + 1} {
		for _, c := range someClasses() {
			if d, ok := impl.ClassScaled(c, k); ok || d != (class{}) {
				t.Errorf("ClassScaled(%v, %d) = %v, %v", c, k, d, ok)
			}
		}
	}
	for _, n := range noClasses() {
		for _, k := range []int{1, 2, 0, -1, 1000, math.MaxInt, math.MinInt} {
			if d, ok := impl.ClassScaled(n, k); ok || d != (class{}) {
				t.Errorf("ClassScaled(%v, %d) = %v, %v", n, k, d, ok)
			}
		}
	}
}

// TestP8 checks promise 8.
func TestP8(t *testing.T) {
	for _, c := range someClasses() {
		for k := 1; k <= 12; k++ {
			parts, ok := impl.ClassParts(c, k)
			if ok != (c.Mod*k <= 1000) {
				t.Fatalf("ClassParts(%v, %d) = %v, %v", c, k, parts, ok)
			}
			if !ok {
				if len(parts) != 0 {
					t.Errorf("ClassParts(%v, %d) fails with %v", c, k, parts)
				}
				continue
			}
			if len(parts) != k {
				t.Fatalf("ClassParts(%v, %d) = %v", c, k, parts)
			}
			checkParts(t, c, k, parts)
		}
	}
}

func checkParts(t *testing.T, c class, k int, parts []class) {
	t.Helper()
	for i, p := range parts {
		if !isClass(p) || p.Mod != c.Mod*k || !impl.ClassBelow(p, c) {
			t.Errorf("ClassParts(%v, %d) has %v", c, k, p)
		}
		for _, q := range parts[:i] {
			if q.Rest >= p.Rest {
				t.Errorf("ClassParts(%v, %d) has the rest %d behind %d", c, k, p.Rest, q.Rest)
			}
			if e, ok := impl.ClassMeet(p, q); ok {
				t.Errorf("%v and %v, parts of %v, have %v in common", q, p, c, e)
			}
		}
	}
}

func TestP8EachInOne(t *testing.T) {
	for _, c := range smallClasses(7) {
		for k := 1; k <= 12; k++ {
			parts, _ := impl.ClassParts(c, k)
			for x := -200; x <= 200; x++ {
				n := 0
				for _, p := range parts {
					if impl.ClassHas(p, x) {
						n++
					}
				}
				if (n == 1) != inClass(c, x) || n > 1 {
					t.Errorf("%d parts of %v have %d", n, c, x)
				}
			}
		}
	}
}

func TestP8Values(t *testing.T) {
	for _, e := range []struct {
		c     class
		k     int
		parts []class
	}{
		{pair(0, 1), 1, []class{pair(0, 1)}},
		{pair(0, 1), 3, []class{pair(0, 3), pair(1, 3), pair(2, 3)}},
		{pair(2, 3), 4, []class{pair(2, 12), pair(5, 12), pair(8, 12), pair(11, 12)}},
		{pair(999, 1000), 1, []class{pair(999, 1000)}},
		{pair(499, 500), 2, []class{pair(499, 1000), pair(999, 1000)}},
		{pair(82, 83), 12, []class{pair(82, 996), pair(165, 996), pair(248, 996), pair(331, 996), pair(414, 996), pair(497, 996), pair(580, 996), pair(663, 996), pair(746, 996), pair(829, 996), pair(912, 996), pair(995, 996)}},
	} {
		if parts, ok := impl.ClassParts(e.c, e.k); !ok || !slices.Equal(parts, e.parts) {
			t.Errorf("ClassParts(%v, %d) = %v, %v", e.c, e.k, parts, ok)
		}
	}
}

func TestP8Invalid(t *testing.T) {
	for _, e := range []struct {
		c class
		k int
	}{
		{pair(0, 1), 0}, {pair(0, 1), -1}, {pair(0, 1), 13}, {pair(0, 1), 14}, {pair(0, 1), 1000}, {pair(0, 2), math.MinInt}, {pair(0, 2), math.MaxInt},
		{pair(0, 4), math.MaxInt/2 + 2}, {pair(0, 1000), 2}, {pair(0, 501), 2}, {pair(0, 84), 12}, {pair(0, 1000), 0}, {pair(0, 1000), 12},
	} {
		if parts, ok := impl.ClassParts(e.c, e.k); ok || len(parts) != 0 {
			t.Errorf("ClassParts(%v, %d) = %v, %v", e.c, e.k, parts, ok)
		}
	}
	for _, n := range noClasses() {
		for k := -1; k <= 13; k++ {
			if parts, ok := impl.ClassParts(n, k); ok || len(parts) != 0 {
				t.Errorf("ClassParts(%v, %d) = %v, %v", n, k, parts, ok)
			}
		}
	}
}

func TestP8KeepsNothing(t *testing.T) {
	c := pair(1, 2)
	first, _ := impl.ClassParts(c, 3)
	first[0] = pair(7, 9)
	_ = append(first[:1], pair(7, 9))
	if again, ok := impl.ClassParts(c, 3); !ok || !slices.Equal(again, []class{pair(1, 6), pair(3, 6), pair(5, 6)}) {
		t.Errorf("ClassParts changed with an earlier result: %v", again)
	}
}

// TestP9 checks promise 9.
func TestP9(t *testing.T) {
	for _, c := range someClasses() {
		for _, x := range someNumbers() {
			want := x
			for !inClass(c, want) {
				want++
			}
			n, ok := impl.ClassFirst(c, x)
			if want > greatestNumber {
				if ok || n != 0 {
					t.Errorf("ClassFirst(%v, %d) = %d, %v", c, x, n, ok)
				}
				continue
			}
			if !ok || n != want {
				t.Errorf("ClassFirst(%v, %d) = %d, %v and not %d", c, x, n, ok, want)
			}
			if !impl.ClassHas(c, n) || n < x || n >= x+c.Mod {
				t.Errorf("ClassFirst(%v, %d) = %d", c, x, n)
			}
		}
	}
}

func TestP9Values(t *testing.T) {
	for _, e := range []struct {
		c        class
		x, first int
	}{
		{pair(2, 5), -4, -3}, {pair(2, 5), -3, -3}, {pair(2, 5), -2, 2}, {pair(2, 5), 2, 2}, {pair(2, 5), 3, 7},
		{pair(0, 1), -1000000, -1000000}, {pair(0, 1), 1000000, 1000000}, {pair(0, 1), 0, 0},
		{pair(0, 1000), 1000000, 1000000}, {pair(0, 1000), 999001, 1000000}, {pair(999, 1000), 998999, 998999}, {pair(999, 1000), 999000, 999999},
		{pair(1, 1000), -1000000, -999999}, {pair(999, 1000), -1000000, -999001}, {pair(999, 1000), 0, 999}, {pair(999, 1000), -1, -1},
	} {
		if n, ok := impl.ClassFirst(e.c, e.x); !ok || n != e.first {
			t.Errorf("ClassFirst(%v, %d) = %d, %v", e.c, e.x, n, ok)
		}
	}
}

func TestP9Invalid(t *testing.T) {
	for _, e := range []struct {
		c class
		x int
	}{
		{pair(1, 2), 1000000}, {pair(1, 1000), 1000000}, {pair(999, 1000), 1000000}, {pair(1, 1000), 999002}, {pair(2, 7), 999996},
	} {
		if n, ok := impl.ClassFirst(e.c, e.x); ok || n != 0 {
			t.Errorf("ClassFirst(%v, %d) = %d, %v", e.c, e.x, n, ok)
		}
	}
	for _, c := range someClasses() {
		for _, x := range noNumbers() {
			if n, ok := impl.ClassFirst(c, x); ok || n != 0 {
				t.Errorf("ClassFirst(%v, %d) = %d, %v", c, x, n, ok)
			}
		}
	}
	for _, c := range noClasses() {
		for _, x := range append(someNumbers(), noNumbers()...) {
			if n, ok := impl.ClassFirst(c, x); ok || n != 0 {
				t.Errorf("ClassFirst(%v, %d) = %d, %v", c, x, n, ok)
			}
		}
	}
}

// TestP10 checks promise 10.
func TestP10(t *testing.T) {
	for _, c := range someClasses() {
		for _, a := range someNumbers() {
			for _, b := range someNumbers() {
				mid := halfDown(a + b)
				all, ok1 := impl.ClassCount(c, a, b)
				low, ok2 := impl.ClassCount(c, a, mid)
				high, ok3 := impl.ClassCount(c, mid, b)
				if !ok1 || !ok2 || !ok3 || all != low+high {
					t.Fatalf("ClassCount(%v) from %d over %d to %d: %d is not %d and %d", c, a, mid, b, all, low, high)
				}
			}
		}
	}
}

func TestP10Search(t *testing.T) {
	for _, c := range append(smallClasses(8), pair(17, 30), pair(0, 1000), pair(999, 1000)) {
		for _, a := range []int{-1000000, -2000, -31, -5, -1, 0, 1, 4, 29, 998, 999, 999800} {
			want := 0
			for b := a; b <= a+200; b++ {
				if n, ok := impl.ClassCount(c, a, b); !ok || n != want {
					t.Fatalf("ClassCount(%v, %d, %d) = %d, %v and not %d", c, a, b, n, ok, want)
				}
				if inClass(c, b) {
					want++
				}
			}
			for b := a - 1; b >= max(a-20, -1000000); b-- {
				if n, ok := impl.ClassCount(c, a, b); !ok || n != 0 {
					t.Errorf("ClassCount(%v, %d, %d) = %d, %v", c, a, b, n, ok)
				}
			}
		}
	}
}

func TestP10Values(t *testing.T) {
	for _, e := range []struct {
		c       class
		a, b, n int
	}{
		{pair(2, 5), 0, 10, 2}, {pair(2, 5), 2, 7, 1}, {pair(2, 5), 2, 8, 2}, {pair(2, 5), 3, 7, 0}, {pair(2, 5), -3, 2, 1}, {pair(2, 5), -8, 3, 3},
		{pair(0, 1), -1000000, 1000000, 2000000}, {pair(0, 1), 0, 1, 1}, {pair(0, 1), -1, 0, 1}, {pair(0, 1), 5, 5, 0}, {pair(0, 1), 6, 5, 0},
		{pair(0, 1), 1000000, -1000000, 0}, {pair(0, 1), 1000000, 1000000, 0}, {pair(0, 1), -1000000, -1000000, 0},
		{pair(0, 1000), -1000000, 1000000, 2000}, {pair(999, 1000), -1000000, 1000000, 2000}, {pair(500, 1000), -500, 500, 1},
		{pair(0, 1000), 999001, 1000000, 0}, {pair(999, 1000), 999999, 1000000, 1}, {pair(999, 1000), 1000000, 999999, 0},
	} {
		if n, ok := impl.ClassCount(e.c, e.a, e.b); !ok || n != e.n {
			t.Errorf("ClassCount(%v, %d, %d) = %d, %v", e.c, e.a, e.b, n, ok)
		}
	}
}

func TestP10Invalid(t *testing.T) {
	for _, c := range []class{pair(0, 1), pair(2, 5), pair(999, 1000)} {
		for _, x := range noNumbers() {
			for _, y := range append([]int{0, 7, -7, 1000000, -1000000}, noNumbers()...) {
				if n, ok := impl.ClassCount(c, x, y); ok || n != 0 {
					t.Errorf("ClassCount(%v, %d, %d) = %d, %v", c, x, y, n, ok)
				}
				if n, ok := impl.ClassCount(c, y, x); ok || n != 0 {
					t.Errorf("ClassCount(%v, %d, %d) = %d, %v", c, y, x, n, ok)
				}
			}
		}
	}
	for _, c := range noClasses() {
		for _, b := range []int{-10, 0, 10, math.MaxInt} {
			if n, ok := impl.ClassCount(c, 0, b); ok || n != 0 {
				t.Errorf("ClassCount(%v, 0, %d) = %d, %v", c, b, n, ok)
			}
		}
	}
}
