package tests

import (
	"math"
	"runtime"
	"slices"
	"strings"
	"sync"
	"testing"
	"testing/synctest"

	"loop.example/restcovers/impl"
)

// checkLine checks promise 48 for a line, and holds its class against a search.
func checkLine(t *testing.T, a int, b int, m int) {
	t.Helper()
	c, ok := impl.SolveLine(a, b, m)
	want, found := allBySolving([][]int{{a, b, m}})
	if ok != found || c != want {
		t.Errorf("SolveLine(%d, %d, %d) = %v, %v and not %v, %v", a, b, m, c, ok, want, found)
		return
	}
	if ok && (!impl.ClassIn(c) || m%c.Mod != 0 || (a*c.Rest-b)%m != 0 || a*c.Mod%m != 0) {
		t.Errorf("SolveLine(%d, %d, %d) = %v", a, b, m, c)
	}
}

// TestP48 checks promise 48.
func TestP48(t *testing.T) {
	for _, m := range moduliUpTo(13) {
		for _, a := range numbersAbout(m) {
			for _, b := range numbersAbout(m) {
				checkLine(t, a, b, m)
			}
		}
	}
	for _, m := range append(greatModuli(), 30, 36, 97, 128) {
		for i, a := range someNumbers() {
			for _, b := range []int{0, 1, -1, a, 5 * i, 60 * i, -greatestNumber, greatestNumber, greatestNumber - i} {
				checkLine(t, a, b, m)
			}
		}
	}
}

func TestP48Values(t *testing.T) {
	for _, e := range []struct {
		a, b, m int
		c       class
	}{
		{2, 4, 6, pair(2, 3)}, {1, 5, 7, pair(5, 7)}, {3, 1, 7, pair(5, 7)}, {6, 9, 15, pair(4, 5)}, {4, 2, 6, pair(2, 3)}, {10, 4, 12, pair(4, 6)}, {35, 14, 84, pair(10, 12)},
		// All whole numbers solve these.
		{0, 0, 1, pair(0, 1)}, {0, 0, 5, pair(0, 1)}, {5, 10, 5, pair(0, 1)}, {-5, 0, 5, pair(0, 1)}, {0, 1000, 1000, pair(0, 1)}, {1000, -1000, 1000, pair(0, 1)}, {1000000, -1000000, 1000, pair(0, 1)},
		// The modulus 1.
		{1, 0, 1, pair(0, 1)}, {0, 1, 1, pair(0, 1)}, {7, 9, 1, pair(0, 1)}, {-3, 5, 1, pair(0, 1)}, {1000000, 1000000, 1, pair(0, 1)}, {-1000000, -999999, 1, pair(0, 1)},
		// Negative numbers.
		{-2, 4, 6, pair(1, 3)}, {2, -4, 6, pair(1, 3)}, {-2, -4, 6, pair(2, 3)}, {1, -1, 1000, pair(999, 1000)}, {-1, 1, 1000, pair(999, 1000)}, {-7, -1, 10, pair(3, 10)},
		// The ends of the ranges.
		{1, 1000000, 1000, pair(0, 1000)}, {1, -1000000, 999, pair(998, 999)}, {1000000, 1, 999, pair(1, 999)}, {-1000000, 1, 999, pair(998, 999)}, {1000000, 1000000, 997, pair(1, 997)}, {500, 500, 1000, pair(1, 2)}, {2, 998, 1000, pair(499, 500)}, {999, 1, 1000, pair(999, 1000)}, {3, 1, 1000, pair(667, 1000)},
		// None solves these.
		{0, 1, 2, class{}}, {2, 1, 2, class{}}, {2, 3, 6, class{}}, {2, -1, 6, class{}}, {-3, 1, 6, class{}}, {6, 8, 15, class{}}, {0, 1, 1000, class{}}, {0, -1, 1000, class{}}, {10, 999999, 1000, class{}}, {1000000, 1, 1000, class{}}, {500, 1, 1000, class{}},
	} {
		if c, ok := impl.SolveLine(e.a, e.b, e.m); c != e.c || ok != (e.c.Mod > 0) {
			t.Errorf("SolveLine(%d, %d, %d) = %v, %v", e.a, e.b, e.m, c, ok)
		}
	}
}

// eachInvalidLine gives out lists of three numbers of which one at least is not in its range.
func eachInvalidLine(check func(a int, b int, m int)) {
	eachInvalid(func(a int, m int) {
		for _, b := range []int{0, 1, -4, a, greatestNumber, greatestNumber + 1, math.MinInt} {
			check(a, b, m)
		}
	})
	for _, b := range noNumbers() {
		for _, m := range []int{1, 2, 10, 1000} {
			for _, a := range []int{0, 1, -1, 10, greatestNumber} {
				check(a, b, m)
			}
		}
	}
}

func TestP48Invalid(t *testing.T) {
	eachInvalidLine(func(a int, b int, m int) {
		if c, ok := impl.SolveLine(a, b, m); ok || c != (class{}) {
			t.Errorf("SolveLine(%d, %d, %d) = %v, %v", a, b, m, c, ok)
		}
	})
}

// checkAll checks promise 49 for some lines, and holds their class against a search.
func checkAll(t *testing.T, lines [][]int) bool {
	t.Helper()
	c, ok := impl.SolveAll(lines)
	if want, found := allBySolving(lines); ok != found || c != want {
		t.Errorf("SolveAll(%v) = %v, %v and not %v, %v", lines, c, ok, want, found)
		return ok
	}
	for _, line := range lines {
		if d, okToo := impl.SolveLine(line[0], line[1], line[2]); ok && (!okToo || !impl.ClassBelow(c, d)) {
			t.Errorf("SolveAll(%v) = %v, and SolveLine of %v is %v, %v", lines, c, line, d, okToo)
		}
	}
	return ok
}

// TestP49 checks promise 49.
func TestP49(t *testing.T) {
	var list [][]int
	for m := 1; m <= 6; m++ {
		for a := range m {
			for b := range m {
				list = append(list, []int{a, b - m, m})
			}
		}
	}
	did, failed := 0, 0
	count := func(ok bool) {
		if ok {
			did++
		} else {
			failed++
		}
	}
	count(checkAll(t, nil))
	for i, first := range list {
		count(checkAll(t, [][]int{first}))
		for j, second := range list {
			count(checkAll(t, [][]int{first, second}))
			third := list[(i*j+5*j+i)%len(list)]
			count(checkAll(t, [][]int{first, second, third}))
		}
	}
	if did == 0 || failed == 0 {
		t.Errorf("%d times, SolveAll succeeds, and %d times, it fails", did, failed)
	}
}

// TestP49Many takes up to 6 lines with a solution that they share, most of the moduli having common divisors.
func TestP49Many(t *testing.T) {
	moduli := []int{1, 12, 30, 9, 40, 7, 1000, 999, 18, 125, 4, 997, 25, 8, 100, 11, 500, 360}
	did, tooGreat := 0, 0
	for _, x := range []int{0, 1, 5, 77, 999, 1234, -1, -700} {
		for i := range 40 {
			for n := 1; n <= 6; n++ {
				var lines [][]int
				for j := range n {
					m := moduli[(i*i+3*i*j+5*j)%len(moduli)]
					a := 1 + (i+j*j)%9
					lines = append(lines, []int{a, a * x, m})
				}
				if checkAll(t, lines) {
					did++
				} else {
					tooGreat++
				}
			}
		}
	}
	if did == 0 || tooGreat == 0 {
		t.Errorf("%d times, SolveAll succeeds, and %d times, it fails", did, tooGreat)
	}
}

func TestP49Values(t *testing.T) {
	for _, e := range []struct {
		lines [][]int
		c     class
	}{
		{nil, pair(0, 1)}, {[][]int{}, pair(0, 1)},
		{[][]int{{2, 4, 6}}, pair(2, 3)}, {[][]int{{0, 0, 9}}, pair(0, 1)}, {[][]int{{5, 7, 1}}, pair(0, 1)}, {[][]int{{1, -1, 1000}}, pair(999, 1000)}, {[][]int{{1, 1000000, 999}}, pair(1, 999)},
		{[][]int{{1, 2, 3}, {1, 3, 5}}, pair(8, 15)}, {[][]int{{1, 3, 5}, {1, 2, 3}}, pair(8, 15)}, {[][]int{{1, 1, 4}, {1, 3, 6}}, pair(9, 12)}, {[][]int{{1, 1, 4}, {1, 1, 4}}, pair(1, 4)}, {[][]int{{2, 2, 8}, {1, 1, 2}}, pair(1, 4)}, {[][]int{{1, 2, 3}, {1, 3, 5}, {1, 2, 7}}, pair(23, 105)}, {[][]int{{0, 0, 1000}, {1, 5, 997}}, pair(5, 997)},
		// 6 lines.
		{[][]int{{0, 0, 1}, {0, 0, 1}, {0, 0, 1}, {0, 0, 1}, {0, 0, 1}, {0, 0, 1}}, pair(0, 1)},
		{[][]int{{1, 1, 2}, {1, 1, 3}, {1, 1, 4}, {1, 1, 5}, {1, 1, 6}, {1, 1, 7}}, pair(1, 420)},
		{[][]int{{1, 1, 2}, {1, 2, 3}, {1, 3, 4}, {1, 4, 5}, {1, 5, 6}, {1, -1, 10}}, pair(59, 60)},
		// The modulus 1000, and lines whose classes have lesser moduli than they have themselves.
		{[][]int{{1, 7, 8}, {1, 124, 125}}, pair(999, 1000)}, {[][]int{{1, 0, 8}, {1, 0, 125}, {1, 0, 1000}}, pair(0, 1000)}, {[][]int{{2, 2, 1000}, {3, 3, 999}}, class{}}, {[][]int{{500, 500, 1000}, {333, 333, 999}}, pair(1, 6)},
		// No common solution.
		{[][]int{{1, 0, 2}, {1, 1, 2}}, class{}}, {[][]int{{1, 1, 4}, {1, 2, 6}}, class{}}, {[][]int{{1, 0, 1000}, {1, 1, 1000}}, class{}}, {[][]int{{1, 0, 4}, {1, 0, 3}, {1, 1, 2}}, class{}}, {[][]int{{1, 1, 2}, {1, 1, 3}, {1, 1, 4}, {1, 1, 5}, {1, 1, 6}, {1, 0, 2}}, class{}},
		// One that none solves.
		{[][]int{{0, 1, 2}}, class{}}, {[][]int{{2, 3, 6}}, class{}}, {[][]int{{1, 0, 1}, {2, 1, 2}}, class{}}, {[][]int{{2, 1, 2}, {1, 0, 1}}, class{}}, {[][]int{{0, 1, 1000}, {0, 1, 999}}, class{}},
		// Too great a modulus: there are common solutions.
		{[][]int{{1, 0, 999}, {1, 0, 1000}}, class{}}, {[][]int{{1, 0, 7}, {1, 0, 143}}, class{}}, {[][]int{{1, 0, 2}, {1, 0, 3}, {1, 0, 5}, {1, 0, 7}, {1, 0, 11}}, class{}}, {[][]int{{1, 1, 7}, {1, 1, 8}, {1, 1, 9}, {1, 1, 5}, {1, 1, 2}, {1, 1, 3}}, class{}}, {[][]int{{1, 5, 997}, {1, 5, 998}, {0, 0, 1}}, class{}},
	} {
		if c, ok := impl.SolveAll(e.lines); c != e.c || ok != (e.c.Mod > 0) {
			t.Errorf("SolveAll(%v) = %v, %v", e.lines, c, ok)
		}
	}
}

// checkAllFails checks that some lines lead to nothing.
func checkAllFails(t *testing.T, lines [][]int) {
	t.Helper()
	if c, ok := impl.SolveAll(lines); ok || c != (class{}) {
		t.Errorf("SolveAll(%v) = %v, %v", lines, c, ok)
	}
}

func TestP49Invalid(t *testing.T) {
	good := []int{1, 1, 2}
	for _, n := range []int{7, 8, 9, 100} {
		checkAllFails(t, slices.Repeat([][]int{good}, n))
		checkAllFails(t, slices.Repeat([][]int{{0, 0, 1}}, n))
		checkAllFails(t, make([][]int, n))
	}
	for _, line := range [][]int{nil, {}, {1}, {0}, {1, 2}, {0, 0}, {1, 1, 2, 0}, {1, 1, 2, 2}, {0, 0, 1, 1}, {0, 0, 1, 0, 0, 1}, make([]int, 9)} {
		checkAllAmong(t, line)
	}
	eachInvalidLine(func(a int, b int, m int) {
		checkAllAmong(t, []int{a, b, m})
	})
}

// checkAllAmong puts what is no line at each end of good ones, and behind one that none solves.
func checkAllAmong(t *testing.T, line []int) {
	t.Helper()
	good := []int{1, 1, 2}
	for _, lines := range [][][]int{
		{line}, {line, line}, {line, good}, {good, line}, {good, line, good}, {good, good, good, good, good, line}, {line, good, good, good, good, good}, {{0, 1, 2}, line}, {{1, 0, 2}, good, line},
	} {
		checkAllFails(t, lines)
	}
}

// TestP50 checks promise 50.
func TestP50(t *testing.T) {
	did, failed := 0, 0
	eachNumber(40, func(a int, m int) {
		x, ok := impl.SolveBack(a, m)
		if want, found := backNumber(a, m); ok != found || x != want {
			t.Errorf("SolveBack(%d, %d) = %d, %v and not %d, %v", a, m, x, ok, want, found)
			return
		}
		if !ok {
			failed++
			return
		}
		did++
		if again := backOf(t, x, m); again != restBySearch(a, m) {
			t.Errorf("SolveBack(%d, %d) = %d, which leads to %d", a, m, x, again)
		}
		if k, kToo := orderOf(t, a, m), orderOf(t, x, m); k != kToo {
			t.Errorf("SolveBack(%d, %d) = %d, and the orders are %d and %d", a, m, x, k, kToo)
		}
	})
	if did == 0 || failed == 0 {
		t.Errorf("%d times, SolveBack succeeds, and %d times, it fails", did, failed)
	}
}

func TestP50Values(t *testing.T) {
	for _, e := range []struct{ a, m, x int }{
		{3, 7, 5}, {5, 7, 3}, {1, 2, 1}, {1, 7, 1}, {6, 7, 6}, {7, 10, 3}, {9, 10, 9}, {3, 8, 3}, {5, 12, 5},
		{0, 1, 0}, {1, 1, 0}, {5, 1, 0}, {-1, 1, 0}, {1000000, 1, 0}, {-1000000, 1, 0},
		{-1, 7, 6}, {-3, 7, 2}, {10, 7, 5}, {-4, 7, 5}, {999, 1000, 999}, {-1, 1000, 999}, {3, 1000, 667}, {1000000, 999, 1}, {-1000000, 999, 998}, {999999, 1000, 999}, {-999999, 1000, 1}, {2, 997, 499}, {2, 999, 500},
	} {
		if x, ok := impl.SolveBack(e.a, e.m); !ok || x != e.x {
			t.Errorf("SolveBack(%d, %d) = %d, %v", e.a, e.m, x, ok)
		}
	}
}

// TestP50Fails names numbers that share a divisor with the modulus.
func TestP50Fails(t *testing.T) {
	for _, e := range [][2]int{{0, 2}, {0, 7}, {0, 1000}, {2, 4}, {-2, 4}, {7, 7}, {-7, 7}, {14, 21}, {6, 9}, {-6, 9}, {5, 1000}, {1000, 1000}, {1000000, 1000}, {-1000000, 1000}, {997, 997}, {37, 999}} {
		if x, ok := impl.SolveBack(e[0], e[1]); ok || x != 0 {
			t.Errorf("SolveBack(%d, %d) = %d, %v", e[0], e[1], x, ok)
		}
	}
}

func TestP50Invalid(t *testing.T) {
	eachInvalid(func(a int, m int) {
		if x, ok := impl.SolveBack(a, m); ok || x != 0 {
			t.Errorf("SolveBack(%d, %d) = %d, %v", a, m, x, ok)
		}
	})
}

// TestP51 checks promise 51.
func TestP51(t *testing.T) {
	did, failed := 0, 0
	check := func(a int, m int) {
		k, ok := impl.SolveOrder(a, m)
		if want, found := orderBySteps(a, m); ok != found || k != want {
			t.Errorf("SolveOrder(%d, %d) = %d, %v and not %d, %v", a, m, k, ok, want, found)
			return
		}
		if !ok {
			failed++
			return
		}
		did++
		if units := unitsOf(t, m); units%k != 0 {
			t.Errorf("SolveOrder(%d, %d) = %d, and there are %d units", a, m, k, units)
		}
		if power := powerOf(t, a, k, m); power != restBySearch(1, m) {
			t.Errorf("SolveOrder(%d, %d) = %d, and the power has the rest %d", a, m, k, power)
		}
	}
	eachNumber(40, check)
	if did == 0 || failed == 0 {
		t.Errorf("%d times, SolveOrder succeeds, and %d times, it fails", did, failed)
	}
}

func TestP51Values(t *testing.T) {
	for _, e := range []struct{ a, m, k int }{
		{1, 2, 1}, {1, 7, 1}, {2, 7, 3}, {3, 7, 6}, {6, 7, 2}, {4, 7, 3}, {2, 9, 6}, {3, 8, 2}, {5, 8, 2}, {7, 8, 2}, {3, 10, 4}, {2, 5, 4}, {3, 4, 2}, {5, 12, 2},
		{0, 1, 1}, {1, 1, 1}, {7, 1, 1}, {-5, 1, 1}, {1000000, 1, 1}, {-1000000, 1, 1},
		{-1, 7, 2}, {-1, 2, 1}, {-5, 7, 3}, {9, 7, 3}, {-1, 1000, 2}, {3, 1000, 100}, {7, 1000, 20}, {7, 997, 996}, {10, 997, 166}, {10, 999, 3}, {2, 999, 36}, {1000000, 999, 1}, {-1000000, 999, 2}, {1000000, 997, 83}, {-999999, 1000, 1}, {999999, 1000, 2},
	} {
		if k, ok := impl.SolveOrder(e.a, e.m); !ok || k != e.k {
			t.Errorf("SolveOrder(%d, %d) = %d, %v", e.a, e.m, k, ok)
		}
	}
}

// TestP51Fails names numbers that have no order: 0 among them, and ones whose powers come to 0 late or never.
func TestP51Fails(t *testing.T) {
	for _, e := range [][2]int{{0, 2}, {0, 7}, {0, 1000}, {2, 4}, {2, 6}, {3, 6}, {4, 6}, {-2, 6}, {7, 7}, {-7, 7}, {14, 21}, {2, 512}, {5, 1000}, {10, 1000}, {1000, 1000}, {1000000, 1000}, {-1000000, 1000}, {997, 997}, {37, 999}} {
		if k, ok := impl.SolveOrder(e[0], e[1]); ok || k != 0 {
			t.Errorf("SolveOrder(%d, %d) = %d, %v", e[0], e[1], k, ok)
		}
	}
}

func TestP51Invalid(t *testing.T) {
	eachInvalid(func(a int, m int) {
		if k, ok := impl.SolveOrder(a, m); ok || k != 0 {
			t.Errorf("SolveOrder(%d, %d) = %d, %v", a, m, k, ok)
		}
	})
}

// TestP52 checks promise 52.
func TestP52(t *testing.T) {
	for _, m := range moduliUpTo(40) {
		n := 0
		for x := 1; x <= m; x++ {
			if _, ok := impl.SolveBack(x, m); ok {
				n++
			}
		}
		if units := unitsOf(t, m); units != n {
			t.Errorf("SolveUnits(%d) = %d, and %d numbers lead back", m, units, n)
		}
	}
}

func TestP52Search(t *testing.T) {
	for _, m := range append(moduliUpTo(200), greatModuli()...) {
		if units, want := unitsOf(t, m), unitsByDivisors(m); units != want {
			t.Errorf("SolveUnits(%d) = %d and not %d", m, units, want)
		}
	}
}

// TestP52Sum takes all moduli: the units of all divisors of a number are together that number.
func TestP52Sum(t *testing.T) {
	for m := 1; m <= 1000; m++ {
		sum := 0
		for d := 1; d <= m; d++ {
			if m%d == 0 {
				sum += unitsOf(t, d)
			}
		}
		if sum != m {
			t.Errorf("the units of the divisors of %d are %d together", m, sum)
		}
	}
}

func TestP52Values(t *testing.T) {
	for _, e := range [][2]int{{1, 1}, {2, 1}, {3, 2}, {4, 2}, {5, 4}, {6, 2}, {7, 6}, {8, 4}, {9, 6}, {10, 4}, {12, 4}, {30, 8}, {36, 12}, {97, 96}, {210, 48}, {360, 96}, {512, 256}, {729, 486}, {997, 996}, {998, 498}, {999, 648}, {1000, 400}} {
		if n, ok := impl.SolveUnits(e[0]); !ok || n != e[1] {
			t.Errorf("SolveUnits(%d) = %d, %v", e[0], n, ok)
		}
	}
}

func TestP52Invalid(t *testing.T) {
	for _, m := range noModuli() {
		if n, ok := impl.SolveUnits(m); ok || n != 0 {
			t.Errorf("SolveUnits(%d) = %d, %v", m, n, ok)
		}
	}
}

// TestP53 checks promise 53 for all moduli: just those that it names have a root.
func TestP53(t *testing.T) {
	for m := 1; m <= 1000; m++ {
		root, ok := impl.SolveRoot(m)
		if ok != mayHaveRoot(m) {
			t.Errorf("SolveRoot(%d) = %d, %v", m, root, ok)
			continue
		}
		if !ok {
			if root != 0 {
				t.Errorf("SolveRoot(%d) = %d, %v", m, root, ok)
			}
			continue
		}
		if root < 1 || root > m || orderOf(t, root, m) != unitsOf(t, m) {
			t.Errorf("SolveRoot(%d) = %d, and there are %d units", m, root, unitsOf(t, m))
		}
	}
}

// TestP53Least looks at all numbers ahead of a root, and at all numbers where there is none.
func TestP53Least(t *testing.T) {
	for _, m := range append(moduliUpTo(90), greatModuli()...) {
		want, found := 0, false
		units := unitsByDivisors(m)
		for x := 1; x <= m && !found; x++ {
			if k, ok := orderBySteps(x, m); ok && k == units {
				want, found = x, true
			}
		}
		if root, ok := impl.SolveRoot(m); ok != found || root != want {
			t.Errorf("SolveRoot(%d) = %d, %v and not %d, %v", m, root, ok, want, found)
		}
	}
}

func TestP53Values(t *testing.T) {
	for _, e := range [][2]int{
		{1, 1}, {2, 1}, {4, 3},
		// Odd primes, their powers, and twice such powers.
		{3, 2}, {5, 2}, {7, 3}, {11, 2}, {13, 2}, {23, 5}, {41, 6}, {71, 7}, {191, 19}, {409, 21}, {991, 6}, {997, 7}, {9, 2}, {25, 2}, {27, 2}, {49, 3}, {121, 2}, {729, 2}, {841, 2}, {961, 3},
		{6, 5}, {10, 3}, {14, 3}, {18, 5}, {22, 7}, {46, 5}, {50, 3}, {54, 5}, {98, 3}, {486, 5}, {998, 7},
		// These have none.
		{8, 0}, {12, 0}, {15, 0}, {16, 0}, {20, 0}, {21, 0}, {24, 0}, {28, 0}, {36, 0}, {63, 0}, {512, 0}, {900, 0}, {999, 0}, {1000, 0},
	} {
		if root, ok := impl.SolveRoot(e[0]); root != e[1] || ok != (e[1] > 0) {
			t.Errorf("SolveRoot(%d) = %d, %v", e[0], root, ok)
		}
	}
}

func TestP53Invalid(t *testing.T) {
	for _, m := range noModuli() {
		if root, ok := impl.SolveRoot(m); ok || root != 0 {
			t.Errorf("SolveRoot(%d) = %d, %v", m, root, ok)
		}
	}
}

// TestP54 checks promise 54.
func TestP54(t *testing.T) {
	none := 0
	eachNumber(60, func(a int, m int) {
		list, ok := impl.SolveSquares(a, m)
		if want := squaresBySearch(a, m); !ok || !slices.Equal(list, want) {
			t.Errorf("SolveSquares(%d, %d) = %v, %v and not %v", a, m, list, ok, want)
			return
		}
		if len(list) == 0 {
			none++
		}
		for _, x := range list {
			if powerOf(t, x, 2, m) != restBySearch(a, m) {
				t.Errorf("SolveSquares(%d, %d) = %v, and the square of %d has another rest", a, m, list, x)
			}
			if x != 0 && !slices.Contains(list, m-x) {
				t.Errorf("SolveSquares(%d, %d) = %v without %d", a, m, list, m-x)
			}
		}
	})
	if none == 0 {
		t.Errorf("all numbers have square roots")
	}
}

func TestP54Values(t *testing.T) {
	for _, e := range []struct {
		a, m int
		list []int
	}{
		{2, 7, []int{3, 4}}, {1, 7, []int{1, 6}}, {4, 7, []int{2, 5}}, {1, 8, []int{1, 3, 5, 7}}, {4, 8, []int{2, 6}}, {1, 2, []int{1}}, {1, 15, []int{1, 4, 11, 14}}, {4, 12, []int{2, 4, 8, 10}},
		// The number 0, and multiples of the modulus.
		{0, 2, []int{0}}, {0, 7, []int{0}}, {7, 7, []int{0}}, {-14, 7, []int{0}}, {0, 4, []int{0, 2}}, {0, 9, []int{0, 3, 6}}, {0, 12, []int{0, 6}}, {0, 1000, []int{0, 100, 200, 300, 400, 500, 600, 700, 800, 900}}, {1000000, 1000, []int{0, 100, 200, 300, 400, 500, 600, 700, 800, 900}}, {-1000000, 1000, []int{0, 100, 200, 300, 400, 500, 600, 700, 800, 900}},
		{0, 1, []int{0}}, {1, 1, []int{0}}, {3, 1, []int{0}}, {-1, 1, []int{0}}, {1000000, 1, []int{0}}, {-1000000, 1, []int{0}},
		{-5, 7, []int{3, 4}}, {9, 7, []int{3, 4}}, {-1, 5, []int{2, 3}}, {-1, 2, []int{1}}, {-1, 10, []int{3, 7}}, {1, 1000, []int{1, 249, 251, 499, 501, 749, 751, 999}}, {1000000, 997, []int{3, 994}}, {-1, 997, []int{161, 836}}, {1000000, 999, []int{1, 406, 593, 998}},
		// Without square roots.
		{3, 7, nil}, {-1, 7, nil}, {2, 3, nil}, {-1, 3, nil}, {3, 4, nil}, {2, 4, nil}, {5, 8, nil}, {3, 9, nil}, {6, 9, nil}, {2, 1000, nil}, {-1, 1000, nil}, {10, 1000, nil}, {999, 1000, nil}, {-1000000, 999, nil},
	} {
		if list, ok := impl.SolveSquares(e.a, e.m); !ok || !slices.Equal(list, e.list) {
			t.Errorf("SolveSquares(%d, %d) = %v, %v", e.a, e.m, list, ok)
		}
	}
}

func TestP54Invalid(t *testing.T) {
	eachInvalid(func(a int, m int) {
		if list, ok := impl.SolveSquares(a, m); ok || len(list) != 0 {
			t.Errorf("SolveSquares(%d, %d) = %v, %v", a, m, list, ok)
		}
	})
}

// TestP54SharesNothing changes a result: a later one stays as it is.
func TestP54SharesNothing(t *testing.T) {
	checkNew(t, "SolveSquares", nil, func() ([]int, bool) { return impl.SolveSquares(2, 7) }, []int{3, 4})
	checkNew(t, "SolveSquares", nil, func() ([]int, bool) { return impl.SolveSquares(1, 8) }, []int{1, 3, 5, 7})
	checkNew(t, "SolveSquares", nil, func() ([]int, bool) { return impl.SolveSquares(3, 7) }, nil)
	checkNew(t, "SolveSquares", nil, func() ([]int, bool) { return impl.SolveSquares(5, 1) }, []int{0})
}

// TestP55 checks promise 55.
func TestP55(t *testing.T) {
	check := func(a int, k int, m int) {
		power, more := powerOf(t, a, k, m), powerOf(t, a, k+1, m)
		if power < 0 || power >= m || more != restBySearch(power*a, m) {
			t.Errorf("SolvePower(%d, %d, %d) = %d, and for 1 more it is %d", a, k, m, power, more)
		}
	}
	eachNumber(20, func(a int, m int) {
		for k := range 20 {
			check(a, k, m)
		}
		for _, k := range []int{63, 64, 511, 1000, 65535, 524287, 524288, 999998, 999999} {
			check(a, k, m)
		}
	})
}

func TestP55Search(t *testing.T) {
	eachNumber(12, func(a int, m int) {
		for _, k := range []int{0, 1, 2, 3, 4, 5, 6, 7, 8, 13, 31, 32, 100} {
			if power, want := powerOf(t, a, k, m), powerBySteps(a, k, m); power != want {
				t.Errorf("SolvePower(%d, %d, %d) = %d and not %d", a, k, m, power, want)
			}
		}
	})
	for _, m := range []int{1, 2, 7, 512, 997, 1000} {
		for _, a := range []int{0, 1, -1, 2, 3, 10, -greatestNumber, greatestNumber} {
			for _, k := range []int{123456, 999999, 1000000} {
				if power, want := powerOf(t, a, k, m), powerBySteps(a, k, m); power != want {
					t.Errorf("SolvePower(%d, %d, %d) = %d and not %d", a, k, m, power, want)
				}
			}
		}
	}
}

func TestP55Values(t *testing.T) {
	for _, e := range []struct{ a, k, m, power int }{
		{2, 10, 7, 2}, {2, 10, 1000, 24}, {3, 4, 10, 1}, {3, 5, 10, 3}, {7, 2, 50, 49}, {10, 3, 1000, 0}, {10, 2, 1000, 100},
		// To the power of 0, each number is 1, 0 too.
		{0, 0, 2, 1}, {0, 0, 1000, 1}, {5, 0, 7, 1}, {-5, 0, 7, 1}, {7, 0, 7, 1}, {1000000, 0, 1000, 1}, {-1000000, 0, 999, 1},
		{0, 0, 1, 0}, {5, 0, 1, 0}, {-5, 0, 1, 0}, {0, 1, 1, 0}, {5, 1, 1, 0}, {7, 1000000, 1, 0}, {-1000000, 1000000, 1, 0},
		{0, 1, 7, 0}, {5, 1, 7, 5}, {-5, 1, 7, 2}, {12, 1, 7, 5}, {1000000, 1, 1000, 0}, {1000000, 1, 997, 9}, {-1000000, 1, 997, 988}, {999999, 1, 1000, 999},
		{0, 1000000, 7, 0}, {1, 1000000, 7, 1}, {-1, 1000000, 1000, 1}, {-1, 999999, 1000, 999}, {-2, 3, 7, 6}, {-2, 2, 7, 4}, {2, 1000000, 7, 2}, {3, 1000000, 7, 4}, {2, 1000000, 1000, 376}, {3, 1000000, 1000, 1}, {7, 1000000, 997, 672}, {1000000, 1000000, 999, 1}, {-1000000, 999999, 999, 998}, {2, 1000000, 512, 0},
	} {
		if power, ok := impl.SolvePower(e.a, e.k, e.m); !ok || power != e.power {
			t.Errorf("SolvePower(%d, %d, %d) = %d, %v", e.a, e.k, e.m, power, ok)
		}
	}
}

func TestP55Invalid(t *testing.T) {
	check := func(a int, k int, m int) {
		if power, ok := impl.SolvePower(a, k, m); ok || power != 0 {
			t.Errorf("SolvePower(%d, %d, %d) = %d, %v", a, k, m, power, ok)
		}
	}
	eachInvalid(func(a int, m int) {
		for _, k := range append(noPowers(), 0, 1, 2, greatestNumber) {
			check(a, k, m)
		}
	})
	for _, k := range noPowers() {
		for _, m := range []int{1, 2, 7, 1000} {
			for _, a := range []int{0, 1, -1, 2, 7, -greatestNumber, greatestNumber} {
				check(a, k, m)
			}
		}
	}
}

// TestP49LeavesArguments looks at the lines, at the list of them, and at what lies behind both.
func TestP49LeavesArguments(t *testing.T) {
	check := func(lines [][]int) {
		memory := append(slices.Clone(lines), []int{77, 78, 79})
		var before, numbers [][]int
		for i, line := range lines {
			numbers = append(numbers, slices.Concat(line, []int{81, 82, 83}))
			before = append(before, slices.Clone(numbers[i]))
			memory[i] = numbers[i][:len(line)]
		}
		impl.SolveAll(memory[:len(lines)])
		for i, line := range lines {
			if !slices.Equal(numbers[i], before[i]) || !slices.Equal(memory[i], line) {
				t.Errorf("SolveAll has made %v of %v and %v of %v", numbers[i], before[i], memory[i], line)
			}
		}
		if !slices.Equal(memory[len(lines)], []int{77, 78, 79}) {
			t.Errorf("SolveAll has written %v behind its lines", memory[len(lines)])
		}
	}
	for _, lines := range [][][]int{
		nil, {{2, 4, 6}}, {{-2, -4, 6}, {1000000, -1000000, 999}}, {{1, 3, 5}, {1, 2, 3}}, {{9, -9, 8}, {7, 7, 6}, {5, -5, 4}, {1, 1, 2}, {0, 0, 1}, {1, -1, 2}},
		{{1, 0, 2}, {1, 1, 2}}, {{1, 0, 999}, {1, 0, 1000}}, {{0, 1, 2}}, {{1, 2}, {}, {1}}, {{1, 2, 1001}, {1, 1, 2, 2}}, slices.Repeat([][]int{{5, -7, 3}}, 7),
	} {
		check(lines)
	}
}

// TestP49OneLine passes one line several times, and lines that lie in one list.
func TestP49OneLine(t *testing.T) {
	line := []int{2, 4, 6}
	if c, ok := impl.SolveAll([][]int{line, line, line}); !ok || c != pair(2, 3) || !slices.Equal(line, []int{2, 4, 6}) {
		t.Errorf("SolveAll of one line three times is %v, %v, and the line %v", c, ok, line)
	}
	both := []int{1, 2, 3, 1, 3, 5}
	if c, ok := impl.SolveAll([][]int{both[:3], both[3:]}); !ok || c != pair(8, 15) || !slices.Equal(both, []int{1, 2, 3, 1, 3, 5}) {
		t.Errorf("SolveAll of two lines in one list is %v, %v, and the list %v", c, ok, both)
	}
	if c, ok := impl.SolveAll([][]int{both[:2]}); ok || c != (class{}) {
		t.Errorf("SolveAll looks behind the end of a line: %v, %v", c, ok)
	}
}

// TestP51LeavesNoGoroutine fails if one of those that look for orders waits for ever.
func TestP51LeavesNoGoroutine(t *testing.T) {
	synctest.Test(t, func(t *testing.T) {
		for _, m := range []int{-1, 0, 1, 2, 7, 8, 997, 1000, 1001} {
			for _, a := range []int{0, 1, 2, 10, -3, 1000000, 1000001} {
				impl.SolveOrder(a, m)
			}
			impl.SolveRoot(m)
		}
	})
}

// goroutinesLeft counts the goroutines of the program that have not ended, as far as their stacks fit into the memory here.
// runtime.NumGoroutine does not do: it also counts some that have ended, while their memory is cleaned up.
func goroutinesLeft() int {
	stacks := make([]byte, 1<<18)
	n := runtime.Stack(stacks, true)
	return strings.Count(string(stacks[:n]), "created by loop.example/restcovers/impl.")
}

// TestP53JoinsGoroutines takes moduli whose roots are found long before the last order:
// when SolveRoot returns, the goroutines for the later numbers have ended, but for a few that do nothing more.
func TestP53JoinsGoroutines(t *testing.T) {
	for range 10 {
		for _, m := range []int{991, 997, 998} {
			impl.SolveRoot(m)
			if left := goroutinesLeft(); left > 20 {
				t.Fatalf("SolveRoot(%d) returns ahead of %d goroutines or more", m, left)
			}
		}
	}
}

// TestP53AtOnce asks for roots and orders from several goroutines at once: they have the same results as one after the other.
func TestP53AtOnce(t *testing.T) {
	moduli := []int{1, 2, 4, 8, 9, 41, 191, 409, 486, 729, 997, 998, 999, 1000}
	var roots, orders []int
	for _, m := range moduli {
		root, _ := impl.SolveRoot(m)
		order, _ := impl.SolveOrder(7, m)
		roots, orders = append(roots, root), append(orders, order)
	}
	var all sync.WaitGroup
	for range 8 {
		all.Go(func() {
			for i, m := range moduli {
				root, _ := impl.SolveRoot(m)
				order, _ := impl.SolveOrder(7, m)
				if root != roots[i] || order != orders[i] {
					t.Errorf("by %d, the root is %d and then %d, and the order of 7 is %d and then %d", m, roots[i], root, orders[i], order)
				}
			}
		})
	}
	all.Wait()
}
