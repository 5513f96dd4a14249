package tests

import (
	"math"
	"slices"
	"testing"

	"loop.example/restcovers/impl"
)

// TestP29 checks promise 29.
func TestP29(t *testing.T) {
	did, failed := 0, 0
	for _, s := range splitSystems() {
		for i := -1; i <= len(s); i++ {
			for k := -1; k <= 13; k++ {
				split, ok := impl.ExactSplit(s, i, k)
				if ok != canSplit(s, i, k) {
					t.Errorf("ExactSplit(%v, %d, %d) = %v, %v", s, i, k, split, ok)
				}
				if !ok {
					failed++
					continue
				}
				did++
				if want := splitBySearch(s, i, k); !slices.Equal(split, want) {
					t.Errorf("ExactSplit(%v, %d, %d) = %v and not %v", s, i, k, split, want)
				}
				if len(split) != len(s)+k-1 {
					t.Errorf("ExactSplit(%v, %d, %d) = %v has %d classes", s, i, k, split, len(split))
				}
				if !impl.SystemSame(s, split) {
					t.Errorf("ExactSplit(%v, %d, %d) = %v has other holes", s, i, k, split)
				}
				if impl.SystemExact(split) != impl.SystemExact(s) {
					t.Errorf("SystemExact of %v and of ExactSplit(%v, %d, %d) differ", s, s, i, k)
				}
			}
		}
	}
	if did == 0 || failed == 0 {
		t.Errorf("%d times, ExactSplit succeeds, and %d times, it fails", did, failed)
	}
}

func TestP29Values(t *testing.T) {
	for _, e := range []struct {
		s, split []class
		i, k     int
	}{
		// One part leaves the system as it is.
		{system(0, 1), system(0, 1), 0, 1}, {residues(0, 8, 8), residues(0, 8, 8), 7, 1}, {system(999, 1000, 0, 1), system(999, 1000, 0, 1), 0, 1}, {manyTimes(8, pair(1, 3)), manyTimes(8, pair(1, 3)), 4, 1},
		// As many classes as a system may have, and one fewer.
		{system(0, 1), residues(0, 8, 8), 0, 8}, {system(0, 1), residues(0, 7, 7), 0, 7}, {system(4, 5), system(4, 40, 9, 40, 14, 40, 19, 40, 24, 40, 29, 40, 34, 40, 39, 40), 0, 8},
		{system(0, 2, 1, 2), append(residues(0, 1, 2), system(1, 14, 3, 14, 5, 14, 7, 14, 9, 14, 11, 14, 13, 14)...), 1, 7},
		{residues(0, 7, 7), append(residues(0, 6, 7), pair(6, 14), pair(13, 14)), 6, 2},
		// The first class, the last one and one between.
		{system(0, 2, 1, 2), system(0, 4, 2, 4, 1, 2), 0, 2}, {system(0, 2, 1, 2), system(0, 2, 1, 6, 3, 6, 5, 6), 1, 3}, {system(1, 2, 3, 4, 0, 1), system(1, 2, 3, 12, 7, 12, 11, 12, 0, 1), 1, 3},
		// Systems that are not exact, and equal classes, of which just one is split.
		{system(0, 2, 0, 3), system(0, 2, 0, 6, 3, 6), 1, 2}, {manyTimes(3, pair(0, 2)), system(0, 2, 0, 4, 2, 4, 0, 2), 1, 2}, {system(5, 7), system(5, 14, 12, 14), 0, 2},
		// A modulus or a period of just ModMax.
		{system(499, 500), system(499, 1000, 999, 1000), 0, 2}, {system(0, 125), system(0, 1000, 125, 1000, 250, 1000, 375, 1000, 500, 1000, 625, 1000, 750, 1000, 875, 1000), 0, 8},
		{system(0, 8, 0, 125), system(0, 8, 0, 250, 125, 250), 1, 2}, {system(0, 8, 0, 25), system(0, 8, 0, 125, 25, 125, 50, 125, 75, 125, 100, 125), 1, 5}, {system(7, 8, 124, 125), system(7, 40, 15, 40, 23, 40, 31, 40, 39, 40, 124, 125), 0, 5},
		{system(30, 31, 31, 32), system(30, 62, 61, 62, 31, 32), 0, 2},
	} {
		if split, ok := impl.ExactSplit(e.s, e.i, e.k); !ok || !slices.Equal(split, e.split) {
			t.Errorf("ExactSplit(%v, %d, %d) = %v, %v", e.s, e.i, e.k, split, ok)
		}
	}
}

func TestP29Fails(t *testing.T) {
	for _, e := range []struct {
		s    []class
		i, k int
	}{
		// More classes than a system may have, from 9 to 19 of them.
		{system(0, 1), 0, 9}, {system(0, 1), 0, 12}, {residues(0, 8, 8), 0, 2}, {residues(0, 8, 8), 7, 12}, {residues(0, 7, 7), 3, 3}, {system(0, 2, 1, 2), 1, 8}, {manyTimes(8, pair(0, 1)), 0, 2},
		// A modulus greater than ModMax.
		{system(0, 1000), 0, 2}, {system(1, 501), 0, 2}, {system(0, 1, 999, 1000), 1, 2}, {system(0, 334), 0, 3}, {system(0, 126), 0, 8}, {system(0, 999), 0, 8},
		// A period greater than ModMax, with all moduli in their range.
		{system(0, 8, 0, 125), 0, 2}, {system(0, 8, 0, 125), 1, 3}, {system(0, 1, 0, 1000), 0, 3}, {system(0, 1, 0, 999), 0, 2}, {system(30, 31, 31, 32), 0, 3}, {system(30, 31, 31, 32), 1, 2}, {system(0, 2, 0, 3, 0, 125), 0, 4},
	} {
		if split, ok := impl.ExactSplit(e.s, e.i, e.k); ok || len(split) != 0 {
			t.Errorf("ExactSplit(%v, %d, %d) = %v, %v", e.s, e.i, e.k, split, ok)
		}
	}
}

func TestP29Invalid(t *testing.T) {
	for _, s := range [][]class{system(0, 1), system(0, 2, 1, 2), residues(0, 7, 7), residues(0, 8, 8), system(999, 1000)} {
		for _, k := range append(noParts(), 1, 2) {
			for _, i := range noPlaces(len(s)) {
				if split, ok := impl.ExactSplit(s, i, k); ok || len(split) != 0 {
					t.Errorf("ExactSplit(%v, %d, %d) = %v, %v", s, i, k, split, ok)
				}
			}
		}
		for _, k := range noParts() {
			for i := range s {
				if split, ok := impl.ExactSplit(s, i, k); ok || len(split) != 0 {
					t.Errorf("ExactSplit(%v, %d, %d) = %v, %v", s, i, k, split, ok)
				}
			}
		}
	}
	for _, s := range noSystems() {
		for _, i := range []int{0, 1, len(s) - 1, len(s), -1} {
			for _, k := range []int{1, 2, 0, 8, 13} {
				if split, ok := impl.ExactSplit(s, i, k); ok || len(split) != 0 {
					t.Errorf("ExactSplit(%v, %d, %d) = %v, %v", s, i, k, split, ok)
				}
			}
		}
	}
}

// TestP30 checks promise 30.
func TestP30(t *testing.T) {
	holds, not := 0, 0
	for _, s := range exactChapterSystems() {
		natural := impl.ExactNatural(s)
		if natural != naturalBySearch(s) {
			t.Errorf("ExactNatural(%v) is %v", s, natural)
		}
		if !natural {
			not++
			continue
		}
		holds++
		if !impl.SystemExact(s) {
			t.Errorf("%v is natural, and not exact", s)
		}
		if !impl.ExactNatural(movedOf(t, s, 1)) {
			t.Errorf("%v is natural, and not if moved by 1", s)
		}
		if !impl.ExactNatural(sortedOf(t, s)) {
			t.Errorf("%v is natural, and not if sorted", s)
		}
	}
	if holds == 0 || not == 0 {
		t.Errorf("%d systems are natural, and %d are not", holds, not)
	}
}

func TestP30Values(t *testing.T) {
	for _, s := range [][]class{
		system(0, 1), residues(0, 2, 2), residues(0, 3, 3), residues(0, 5, 5), residues(0, 6, 6), residues(0, 7, 7), residues(0, 8, 8),
		system(0, 2, 1, 4, 3, 4), system(0, 2, 1, 6, 3, 6, 5, 6), system(1, 2, 2, 6, 0, 6, 4, 6), system(0, 3, 1, 3, 2, 9, 5, 9, 8, 9),
		// Two parts that are split in different ways, and one that is split again and again.
		system(0, 4, 2, 4, 1, 6, 3, 6, 5, 6), system(0, 6, 2, 6, 4, 6, 1, 10, 3, 10, 5, 10, 7, 10, 9, 10), system(0, 2, 1, 4, 3, 8, 7, 16, 15, 32, 31, 64, 63, 128, 127, 128),
		system(0, 3, 1, 6, 4, 6, 2, 9, 5, 9, 8, 18, 17, 18), system(0, 5, 1, 5, 2, 5, 3, 5, 4, 10, 9, 10),
		// The same classes come from several splits.
		system(5, 6, 1, 6, 3, 6, 0, 6, 4, 6, 2, 6), system(0, 4, 2, 4, 1, 4, 3, 4), system(0, 6, 1, 6, 2, 6, 3, 6, 4, 6, 5, 12, 11, 12), system(7, 12, 1, 12, 0, 6, 5, 6, 2, 6, 4, 6, 3, 6),
	} {
		if !impl.ExactNatural(s) || !impl.SystemExact(s) {
			t.Errorf("%v is natural, and ExactNatural is %v", s, impl.ExactNatural(s))
		}
	}
	for _, s := range [][]class{
		// Not exact, by a hole, by common numbers, or by both.
		system(0, 2), system(0, 1000), residues(0, 7, 8), residues(1, 8, 8), residues(0, 8, 9), system(0, 2, 1, 4), system(0, 2, 1, 4, 3, 8), system(0, 1, 0, 2), system(0, 1, 0, 3), system(0, 2, 0, 3),
		system(0, 2, 0, 2), system(0, 2, 1, 2, 1, 2), system(0, 2, 0, 2, 1, 2), manyTimes(2, pair(0, 1)), manyTimes(8, pair(0, 1)), system(0, 2, 1, 2, 0, 1), system(0, 2, 0, 3, 1, 4, 5, 6, 7, 12),
		system(0, 2, 1, 3, 2, 6), system(0, 2, 1, 4, 1, 4), system(0, 4, 2, 4, 0, 2), system(0, 2, 1, 3, 5, 6), system(0, 2, 2, 4, 1, 4), system(0, 6, 2, 6, 4, 6, 1, 3, 5, 6),
		system(0, 6, 1, 10, 2, 15), system(0, 13), system(0, 26, 13, 26), residues(0, 8, 13), system(0, 997),
	} {
		if impl.ExactNatural(s) {
			t.Errorf("%v is not natural, and ExactNatural holds", s)
		}
	}
}

func TestP30Orders(t *testing.T) {
	for _, s := range slices.Concat(grownSystems(5)...) {
		for _, order := range orders(s) {
			if !impl.ExactNatural(order) {
				t.Errorf("%v is natural in another order than %v", s, order)
			}
		}
	}
	for n, s := range slices.Concat(grownSystems(8)...) {
		for seed := range 4 {
			if order := mixed(s, 17*n+101*seed); !impl.ExactNatural(order) {
				t.Errorf("%v is natural in another order than %v", s, order)
			}
		}
	}
}

// TestP30Exact looks for exact systems in another way than by splits: those of at most 8 classes all come from splits.
func TestP30Exact(t *testing.T) {
	found := 0
	for _, period := range exactPeriods() {
		for _, s := range exactBySearch(period) {
			found++
			if !impl.SystemExact(s) || !naturalBySearch(s) || !impl.ExactNatural(s) {
				t.Errorf("%v is exact and natural, SystemExact is %v, and ExactNatural is %v", s, impl.SystemExact(s), impl.ExactNatural(s))
			}
		}
	}
	if found == 0 {
		t.Errorf("no exact system is found")
	}
	// Exact, but not natural, as the first three moduli have no common divisor: it has more classes than a system may have.
	list := system(0, 6, 1, 10, 2, 15)
	for x := range 30 {
		if timesAt(list[:3], x) == 0 {
			list = append(list, pair(x, 30))
		}
	}
	if impl.ExactNatural(list) {
		t.Errorf("%v is no system, and ExactNatural holds", list)
	}
}

func TestP30Invalid(t *testing.T) {
	for _, s := range append(noSystems(), residues(0, 9, 9), residues(0, 12, 12), append(residues(0, 7, 8), pair(7, 16), pair(15, 16))) {
		if impl.ExactNatural(s) {
			t.Errorf("%v is no system, and ExactNatural holds", s)
		}
	}
}

// TestP31 checks promise 31.
func TestP31(t *testing.T) {
	holds, not := 0, 0
	for _, s := range slices.Concat(splitSystems(), nearSystems()) {
		natural := impl.ExactNatural(s)
		for i := range s {
			for k := 1; k <= 12; k++ {
				split, ok := impl.ExactSplit(s, i, k)
				if !ok {
					continue
				}
				if impl.ExactNatural(split) != natural {
					t.Errorf("ExactNatural is %v for %v, and not for %v", natural, s, split)
				}
				if natural {
					holds++
				} else {
					not++
				}
			}
		}
	}
	if holds == 0 || not == 0 {
		t.Errorf("%d splits are of natural systems, and %d of others", holds, not)
	}
}

func TestP31Values(t *testing.T) {
	s := system(0, 1)
	for _, e := range [][2]int{{0, 2}, {1, 3}, {0, 1}, {2, 2}, {0, 2}, {4, 2}, {3, 1}} {
		s = splitOf(t, s, e[0], e[1])
		if !impl.ExactNatural(s) {
			t.Errorf("splits lead to %v, and it is not natural", s)
		}
	}
	if want := system(0, 4, 2, 4, 1, 6, 3, 12, 9, 24, 21, 24, 5, 6); !slices.Equal(s, want) {
		t.Errorf("the splits lead to %v and not to %v", s, want)
	}
}

// TestP32 checks promise 32.
func TestP32(t *testing.T) {
	exact := 0
	for _, s := range exactChapterSystems() {
		n := twinsOf(t, s)
		greatest, want := 0, 0
		for _, c := range s {
			greatest = max(greatest, c.Mod)
		}
		for _, c := range s {
			if c.Mod == greatest {
				want++
			}
		}
		if n != want {
			t.Errorf("ExactTwins(%v) = %d and not %d", s, n, want)
		}
		if len(s) == 1 || !impl.SystemExact(s) {
			continue
		}
		exact++
		if n < 2 || n < leastPrime(greatest) {
			t.Errorf("ExactTwins(%v) = %d", s, n)
		}
	}
	if exact == 0 {
		t.Errorf("no system of more than one class is exact")
	}
}

func TestP32Values(t *testing.T) {
	for _, e := range []struct {
		s     []class
		twins int
	}{
		// Systems of one class, and greatest moduli that stand once.
		{system(0, 1), 1}, {system(999, 1000), 1}, {system(2, 7), 1}, {system(0, 2, 0, 3), 1}, {system(0, 3, 0, 2), 1}, {system(0, 1000, 0, 1), 1}, {system(0, 2, 0, 2, 1, 6), 1}, {system(0, 2, 0, 3, 1, 4, 5, 6, 7, 12), 1},
		{residues(0, 2, 2), 2}, {system(0, 2, 1, 4, 3, 4), 2}, {system(1, 4, 0, 2, 3, 4), 2}, {residues(0, 7, 7), 7}, {residues(0, 8, 8), 8}, {system(0, 2, 1, 6, 3, 6, 5, 6), 3},
		{manyTimes(8, pair(0, 1)), 8}, {manyTimes(3, pair(999, 1000)), 3}, {append(manyTimes(7, pair(1, 3)), pair(0, 4)), 1}, {append(manyTimes(7, pair(1, 4)), pair(0, 3)), 7},
		{system(5, 6, 0, 4, 5, 6), 2}, {system(0, 6, 0, 2, 5, 6, 1, 2, 3, 6), 3}, {system(0, 2, 1, 4, 3, 8, 7, 16, 15, 32, 31, 64, 63, 128, 127, 128), 2},
	} {
		if n, ok := impl.ExactTwins(e.s); !ok || n != e.twins {
			t.Errorf("ExactTwins(%v) = %d, %v", e.s, n, ok)
		}
	}
}

func TestP32Invalid(t *testing.T) {
	for _, s := range noSystems() {
		if n, ok := impl.ExactTwins(s); ok || n != 0 {
			t.Errorf("ExactTwins(%v) = %d, %v", s, n, ok)
		}
	}
}

// TestP33 checks promise 33.
func TestP33(t *testing.T) {
	for _, s := range exactChapterSystems() {
		moduli := moduliOf(t, s)
		var want []int
		for _, c := range s {
			want = append(want, c.Mod)
		}
		slices.Sort(want)
		if !slices.Equal(moduli, want) {
			t.Errorf("ExactModuli(%v) = %v and not %v", s, moduli, want)
			continue
		}
		n := 0
		for i, m := range moduli {
			if i > 0 && m < moduli[i-1] {
				t.Errorf("ExactModuli(%v) = %v falls", s, moduli)
			}
			if m == moduli[len(moduli)-1] {
				n++
			}
		}
		if twins := twinsOf(t, s); twins != n {
			t.Errorf("ExactModuli(%v) = %v, and ExactTwins is %d", s, moduli, twins)
		}
	}
}

func TestP33Values(t *testing.T) {
	for _, e := range []struct {
		s      []class
		moduli []int
	}{
		{system(0, 1), []int{1}}, {system(999, 1000), []int{1000}}, {system(0, 2, 0, 3), []int{2, 3}}, {system(0, 3, 0, 2), []int{2, 3}}, {manyTimes(8, pair(0, 1)), []int{1, 1, 1, 1, 1, 1, 1, 1}},
		{system(1, 4, 0, 2, 3, 4), []int{2, 4, 4}}, {system(0, 1000, 0, 1, 3, 8, 4, 10, 0, 8), []int{1, 8, 8, 10, 1000}}, {system(4, 5, 3, 5, 2, 5), []int{5, 5, 5}},
		{system(0, 2, 1, 4, 3, 8, 7, 16, 15, 32, 31, 64, 63, 128, 127, 128), []int{2, 4, 8, 16, 32, 64, 128, 128}}, {system(127, 128, 63, 128, 31, 64, 15, 32, 7, 16, 3, 8, 1, 4, 0, 2), []int{2, 4, 8, 16, 32, 64, 128, 128}},
	} {
		if moduli, ok := impl.ExactModuli(e.s); !ok || !slices.Equal(moduli, e.moduli) {
			t.Errorf("ExactModuli(%v) = %v, %v", e.s, moduli, ok)
		}
	}
}

func TestP33Invalid(t *testing.T) {
	for _, s := range noSystems() {
		if moduli, ok := impl.ExactModuli(s); ok || len(moduli) != 0 {
			t.Errorf("ExactModuli(%v) = %v, %v", s, moduli, ok)
		}
	}
}

// TestP34 checks promise 34.
func TestP34(t *testing.T) {
	for n := 1; n <= impl.ModMax; n++ {
		least := leastClasses(t, n)
		if want := leastBySum(n); least != want {
			t.Errorf("ExactLeast(%d) = %d and not %d", n, least, want)
		}
		if 2*n > impl.ModMax {
			continue
		}
		if twice := leastClasses(t, 2*n); twice != least+1 {
			t.Errorf("ExactLeast(%d) = %d, and that of twice the number is %d", n, least, twice)
		}
	}
}

func TestP34Values(t *testing.T) {
	for _, e := range []struct{ n, least int }{
		{1, 1},
		{2, 2}, {3, 3}, {5, 5}, {7, 7}, {11, 11}, {31, 31}, {499, 499}, {997, 997},
		{4, 3}, {8, 4}, {512, 10}, {9, 5}, {27, 7}, {729, 13}, {25, 9}, {625, 17}, {343, 19}, {961, 61},
		{6, 4}, {12, 5}, {30, 8}, {36, 7}, {210, 14}, {500, 15}, {998, 500}, {999, 43}, {1000, 16},
	} {
		if least, ok := impl.ExactLeast(e.n); !ok || least != e.least {
			t.Errorf("ExactLeast(%d) = %d, %v", e.n, least, ok)
		}
	}
}

func TestP34Invalid(t *testing.T) {
	for _, n := range append(noModuli(), -12, -997, 1024, math.MaxInt-1, math.MinInt+1) {
		if least, ok := impl.ExactLeast(n); ok || least != 0 {
			t.Errorf("ExactLeast(%d) = %d, %v", n, least, ok)
		}
	}
}

// TestP35 checks promise 35.
func TestP35(t *testing.T) {
	list := exactChapterSystems()
	for _, period := range exactPeriods() {
		list = append(list, exactBySearch(period)...)
	}
	exact, just := 0, 0
	for _, s := range list {
		if !impl.SystemExact(s) {
			continue
		}
		exact++
		least := leastClasses(t, periodOf(t, s))
		n := len(moduliOf(t, s))
		if n != len(s) || n < least {
			t.Errorf("ExactModuli(%v) has %d moduli, and ExactLeast of the period is %d", s, n, least)
		}
		if n == least {
			just++
		}
	}
	if exact == 0 || just == 0 {
		t.Errorf("%d systems are exact, and %d have just as many classes as ExactLeast of the period", exact, just)
	}
}

// TestP36 checks promise 36.
func TestP36(t *testing.T) {
	want := []int{0, 1, 1, 3, 10, 39}
	grown := grownSystems(5)
	before := 0
	for k := 1; k <= 5; k++ {
		n, ok := impl.ExactCount(k)
		if !ok || n != want[k] || n != len(grown[k]) {
			t.Errorf("ExactCount(%d) = %d, %v, and splits lead to %d", k, n, ok, len(grown[k]))
		}
		if k >= 3 && n <= before {
			t.Errorf("ExactCount(%d) = %d, and that of 1 class fewer is %d", k, n, before)
		}
		before = n
	}
}

func TestP36Invalid(t *testing.T) {
	for _, k := range []int{0, 6, 7, 8, 9, -1, -2, -5, 100, 1000, math.MinInt, math.MaxInt} {
		if n, ok := impl.ExactCount(k); ok || n != 0 {
			t.Errorf("ExactCount(%d) = %d, %v", k, n, ok)
		}
	}
}

// TestP37 checks promise 37.
func TestP37(t *testing.T) {
	for _, s := range exactChapterSystems() {
		sorted := sortedOf(t, s)
		if want := sortedBySearch(s); !slices.Equal(sorted, want) {
			t.Errorf("ExactSorted(%v) = %v and not %v", s, sorted, want)
		}
		if again := sortedOf(t, sorted); !slices.Equal(again, sorted) {
			t.Errorf("ExactSorted(%v) = %v, and is not its own, but has %v", s, sorted, again)
		}
		if !impl.SystemSame(s, sorted) {
			t.Errorf("ExactSorted(%v) = %v has other holes", s, sorted)
		}
	}
}

func TestP37Values(t *testing.T) {
	for _, e := range []struct {
		s, sorted []class
	}{
		{system(0, 1), system(0, 1)}, {system(999, 1000), system(999, 1000)}, {system(0, 3, 0, 2), system(0, 2, 0, 3)}, {system(0, 2, 0, 3), system(0, 2, 0, 3)},
		// Equal moduli, and equal classes.
		{system(1, 2, 0, 2), system(0, 2, 1, 2)}, {system(7, 8, 0, 8, 6, 8, 1, 8, 5, 8, 2, 8, 4, 8, 3, 8), residues(0, 8, 8)}, {manyTimes(8, pair(3, 4)), manyTimes(8, pair(3, 4))},
		{system(1, 3, 0, 2, 1, 3, 0, 3), system(0, 2, 0, 3, 1, 3, 1, 3)}, {system(0, 2, 1, 2, 0, 2, 1, 2, 0, 2), system(0, 2, 0, 2, 0, 2, 1, 2, 1, 2)},
		// A greater rest has a lesser modulus.
		{system(0, 1000, 9, 10, 0, 1), system(0, 1, 9, 10, 0, 1000)}, {system(0, 12, 3, 4, 2, 4, 5, 6), system(2, 4, 3, 4, 5, 6, 0, 12)},
		{system(127, 128, 63, 128, 31, 64, 15, 32, 7, 16, 3, 8, 1, 4, 0, 2), system(0, 2, 1, 4, 3, 8, 7, 16, 15, 32, 31, 64, 63, 128, 127, 128)},
		{system(10, 12, 9, 12, 2, 12, 11, 12, 0, 12), system(0, 12, 2, 12, 9, 12, 10, 12, 11, 12)},
	} {
		if sorted, ok := impl.ExactSorted(e.s); !ok || !slices.Equal(sorted, e.sorted) {
			t.Errorf("ExactSorted(%v) = %v, %v", e.s, sorted, ok)
		}
	}
}

func TestP37Invalid(t *testing.T) {
	for _, s := range noSystems() {
		if sorted, ok := impl.ExactSorted(s); ok || len(sorted) != 0 {
			t.Errorf("ExactSorted(%v) = %v, %v", s, sorted, ok)
		}
	}
}

// callExact calls each function of the chapter that has a list as its argument.
func callExact(s []class) {
	for _, k := range []int{1, 2, 3, 12, 0} {
		for i := range s {
			impl.ExactSplit(s, i, k)
		}
	}
	impl.ExactNatural(s)
	impl.ExactTwins(s)
	impl.ExactModuli(s)
	impl.ExactSorted(s)
}

func TestExactLeaveArguments(t *testing.T) {
	behind := []class{pair(9, 11), pair(-3, 0)}
	for _, s := range slices.Concat(naturalSystems(5), greatSystems(), spareSystems(), noSystems()) {
		if len(s) > 16 {
			continue
		}
		whole := slices.Concat(s, behind)
		u := slices.Concat(behind[:1], s)
		callExact(whole[:len(s)])
		callExact(u[1:])
		if !slices.Equal(whole, slices.Concat(s, behind)) || !slices.Equal(u, slices.Concat(behind[:1], s)) {
			t.Errorf("%v has become %v and %v", s, whole, u)
		}
	}
}

// TestP29SharesNothing takes splits of the first class, of the last one, and into one part.
func TestP29SharesNothing(t *testing.T) {
	for _, e := range []struct {
		i, k int
		want []class
	}{{0, 1, system(0, 2, 1, 2)}, {1, 1, system(0, 2, 1, 2)}, {0, 2, system(0, 4, 2, 4, 1, 2)}, {1, 2, system(0, 2, 1, 4, 3, 4)}} {
		whole := system(0, 2, 1, 2, 9, 11)
		split := splitOf(t, whole[:2], e.i, e.k)
		split[0] = pair(7, 9)
		_ = append(split, pair(7, 9))
		_ = append(split[:1], pair(7, 9))
		if !slices.Equal(whole, system(0, 2, 1, 2, 9, 11)) {
			t.Errorf("the argument of ExactSplit changed with its result: %v", whole)
		}
		if again := splitOf(t, whole[:2], e.i, e.k); !slices.Equal(again, e.want) {
			t.Errorf("ExactSplit changed with an earlier result: %v", again)
		}
	}
}

func TestP33SharesNothing(t *testing.T) {
	s := system(0, 4, 0, 2)
	first := moduliOf(t, s)
	first[0] = 77
	_ = append(first[:1], 77)
	if again := moduliOf(t, s); !slices.Equal(again, []int{2, 4}) || !slices.Equal(s, system(0, 4, 0, 2)) {
		t.Errorf("ExactModuli changed with an earlier result: %v of %v", again, s)
	}
}

// TestP37SharesNothing takes a system that is in order, and one that is not.
func TestP37SharesNothing(t *testing.T) {
	for _, s := range [][]class{system(0, 2, 1, 4), system(1, 4, 0, 2)} {
		whole := append(slices.Clone(s), pair(9, 11))
		sorted := sortedOf(t, whole[:2])
		sorted[0] = pair(7, 9)
		_ = append(sorted, pair(7, 9))
		_ = append(sorted[:1], pair(7, 9))
		if !slices.Equal(whole, append(slices.Clone(s), pair(9, 11))) {
			t.Errorf("the argument of ExactSorted changed with its result: %v", whole)
		}
		if again := sortedOf(t, s); !slices.Equal(again, system(0, 2, 1, 4)) {
			t.Errorf("ExactSorted changed with an earlier result: %v", again)
		}
	}
}
