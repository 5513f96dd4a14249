package tests

import (
	"slices"
	"testing"

	"loop.example/restcovers/impl"
)

// TestP21 checks promise 21.
func TestP21(t *testing.T) {
	for _, s := range holeSystems() {
		x, ok := impl.HoleFirst(s)
		if want := leastHole(s); ok != (want >= 0) || x != max(want, 0) {
			t.Errorf("HoleFirst(%v) = %d, %v, and the least hole is %d", s, x, ok, want)
		}
		if !ok {
			continue
		}
		if x >= 1<<len(s) {
			t.Errorf("HoleFirst(%v) = %d", s, x)
		}
		if holes := holesOf(t, s); x != holes[0] {
			t.Errorf("HoleFirst(%v) = %d, and the holes are %v", s, x, holes)
		}
	}
}

func TestP21Values(t *testing.T) {
	for _, e := range []struct {
		s     []class
		first int
	}{
		{system(0, 2, 0, 3), 1}, {system(1, 2), 0}, {system(0, 2), 1}, {system(999, 1000), 0}, {system(0, 1000), 1}, {system(0, 1000, 1, 1000), 2},
		{system(7, 8, 124, 125), 0}, {system(0, 8, 0, 125), 1}, {manyTimes(8, pair(0, 2)), 1}, {manyTimes(8, pair(1, 2)), 0},
		{residues(0, 8, 9), 8}, {residues(0, 7, 8), 7}, {residues(1, 8, 8), 0}, {residues(0, 8, 1000), 8}, {system(0, 2, 0, 3, 1, 4, 5, 6), 7},
		{system(0, 2, 0, 3, 1, 4, 1, 6), 11}, {system(0, 3, 1, 3), 2},
		// The greatest ones: 1 less than 2 to the power of the number of classes.
		{system(0, 2, 1, 4), 3}, {system(0, 2, 1, 4, 3, 8), 7}, {system(0, 2, 1, 4, 3, 8, 7, 16), 15},
		{system(0, 2, 1, 4, 3, 8, 7, 16, 15, 32, 31, 64, 63, 128, 127, 256), 255}, {system(127, 256, 63, 128, 31, 64, 15, 32, 7, 16, 3, 8, 1, 4, 0, 2), 255},
	} {
		if x, ok := impl.HoleFirst(e.s); !ok || x != e.first {
			t.Errorf("HoleFirst(%v) = %d, %v", e.s, x, ok)
		}
	}
}

func TestP21Invalid(t *testing.T) {
	for _, s := range noSystems() {
		if x, ok := impl.HoleFirst(s); ok || x != 0 {
			t.Errorf("HoleFirst(%v) = %d, %v", s, x, ok)
		}
	}
}

// TestP22 checks promise 22.
func TestP22(t *testing.T) {
	with, without := 0, 0
	for _, s := range holeSystems() {
		holes := holesOf(t, s)
		if _, ok := impl.HoleFirst(s); ok != (len(holes) > 0) {
			t.Errorf("HoleFirst(%v) tells %v, and the holes are %v", s, ok, holes)
		}
		if len(holes) > 0 {
			with++
		} else {
			without++
		}
	}
	if with == 0 || without == 0 {
		t.Errorf("%d systems have holes, and %d do not", with, without)
	}
}

func TestP22CoversAll(t *testing.T) {
	for _, s := range [][]class{
		system(0, 1), manyTimes(8, pair(0, 1)), system(0, 2, 1, 2), residues(0, 8, 8), system(999, 1000, 0, 1), system(0, 2, 0, 3, 1, 4, 5, 6, 7, 12),
		system(0, 2, 1, 4, 3, 8, 7, 16, 15, 32, 31, 64, 63, 128, 127, 128),
	} {
		if x, ok := impl.HoleFirst(s); ok || x != 0 {
			t.Errorf("HoleFirst(%v) = %d, %v", s, x, ok)
		}
	}
}

// TestP23 checks promise 23.
func TestP23(t *testing.T) {
	for _, s := range holeSystems() {
		n, ok := impl.HoleRun(s)
		if want := runBySearch(s); !ok || n != want {
			t.Errorf("HoleRun(%v) = %d, %v, and not %d", s, n, ok, want)
		}
		if n >= 1<<len(s) {
			t.Errorf("HoleRun(%v) = %d", s, n)
		}
		if (n == -1) != impl.SystemAll(s) {
			t.Errorf("HoleRun(%v) = %d, and SystemAll is %v", s, n, impl.SystemAll(s))
		}
	}
}

func TestP23Values(t *testing.T) {
	for _, e := range []struct {
		s   []class
		run int
	}{
		{system(0, 1), -1}, {manyTimes(8, pair(0, 1)), -1}, {system(0, 2, 1, 2), -1}, {residues(0, 8, 8), -1}, {system(0, 1, 999, 1000), -1},
		{system(0, 2), 1}, {system(1, 2), 1}, {manyTimes(8, pair(1, 2)), 1}, {system(0, 1000), 1}, {system(999, 1000), 1},
		{system(0, 2, 0, 3), 3}, {system(0, 8, 0, 125), 2}, {system(1, 3, 0, 3), 2}, {residues(0, 8, 1000), 8}, {residues(1, 8, 9), 7}, {residues(2, 5, 9), 3},
		// Runs that go on over a multiple of the period.
		{system(0, 3, 2, 3), 2}, {system(0, 1000, 999, 1000), 2}, {system(4, 5, 0, 5, 1, 5), 3}, {system(0, 9, 1, 9, 7, 9, 8, 9), 4},
		{system(998, 1000, 999, 1000, 0, 1000, 1, 1000, 2, 1000, 500, 1000, 501, 1000), 5}, {system(0, 9, 8, 9, 3, 9, 4, 9, 5, 9), 3}, {system(7, 8, 124, 125), 2},
		// The greatest ones: 1 less than 2 to the power of the number of classes.
		{system(0, 2, 1, 4), 3}, {system(0, 2, 1, 4, 3, 8), 7}, {system(1, 2, 2, 4, 4, 8, 8, 16), 15},
		{system(0, 2, 1, 4, 3, 8, 7, 16, 15, 32, 31, 64, 63, 128, 127, 256), 255}, {system(0, 2, 3, 4, 1, 8, 5, 16), 15},
	} {
		if n, ok := impl.HoleRun(e.s); !ok || n != e.run {
			t.Errorf("HoleRun(%v) = %d, %v", e.s, n, ok)
		}
	}
}

func TestP23Invalid(t *testing.T) {
	for _, s := range noSystems() {
		if n, ok := impl.HoleRun(s); ok || n != 0 {
			t.Errorf("HoleRun(%v) = %d, %v", s, n, ok)
		}
	}
}

// TestP24 checks promise 24.
func TestP24(t *testing.T) {
	spare := 0
	for _, s := range holeSystems() {
		places := spareOf(t, s)
		if want := spareBySearch(s); !slices.Equal(places, want) {
			t.Errorf("HoleSpare(%v) = %v and not %v", s, places, want)
		}
		if len(places) == 0 || places[0] != 0 {
			continue
		}
		spare++
		if !impl.SystemSame(s, s[1:]) {
			t.Errorf("the first class of %v is spare, and not all holes of the others are its holes", s)
		}
	}
	if spare == 0 {
		t.Errorf("no system has a spare class ahead")
	}
}

func TestP24Values(t *testing.T) {
	for _, e := range []struct {
		s      []class
		places []int
	}{
		{system(0, 1), nil}, {system(0, 1000), nil}, {system(0, 2, 0, 3), nil}, {residues(0, 8, 8), nil}, {system(0, 2, 0, 3, 1, 4, 5, 6, 7, 12), nil},
		{system(0, 1, 0, 2), []int{1}}, {system(0, 2, 0, 1), []int{0}}, {system(0, 1, 999, 1000), []int{1}}, {system(0, 2, 0, 2), []int{0, 1}},
		{manyTimes(8, pair(0, 1)), []int{0, 1, 2, 3, 4, 5, 6, 7}}, {manyTimes(8, pair(999, 1000)), []int{0, 1, 2, 3, 4, 5, 6, 7}},
		{system(0, 2, 1, 3, 0, 2), []int{0, 2}}, {system(0, 2, 0, 2, 0, 1), []int{0, 1}}, {system(4, 8, 0, 2, 1, 4, 4, 8), []int{0, 3}},
		{system(0, 2, 1, 2, 0, 1), []int{0, 1, 2}}, {system(0, 2, 1, 2, 1, 3), []int{2}}, {append(residues(0, 7, 7), pair(0, 1)), []int{0, 1, 2, 3, 4, 5, 6, 7}},
		// A class of which two others cover one part each, and one of which they leave a part.
		{system(0, 2, 0, 4, 2, 4), []int{0, 1, 2}}, {system(0, 2, 0, 4, 2, 8), []int{1, 2}}, {system(0, 6, 2, 6, 4, 6, 0, 2), []int{0, 1, 2, 3}},
		{system(0, 8, 0, 125, 0, 1000), []int{2}}, {system(0, 1000, 0, 125, 0, 8), []int{0}},
	} {
		if places, ok := impl.HoleSpare(e.s); !ok || !slices.Equal(places, e.places) {
			t.Errorf("HoleSpare(%v) = %v, %v", e.s, places, ok)
		}
	}
}

func TestP24Invalid(t *testing.T) {
	for _, s := range noSystems() {
		if places, ok := impl.HoleSpare(s); ok || len(places) != 0 {
			t.Errorf("HoleSpare(%v) = %v, %v", s, places, ok)
		}
	}
}

// TestP25 checks promise 25.
func TestP25(t *testing.T) {
	for _, s := range holeSystems() {
		least := leastOf(t, s)
		if want := leastBySearch(s); !slices.Equal(least, want) {
			t.Errorf("HoleLeast(%v) = %v and not %v", s, least, want)
		}
		if !impl.SystemSame(s, least) {
			t.Errorf("HoleLeast(%v) = %v has other holes", s, least)
		}
		if places := spareOf(t, least); len(places) != 0 {
			t.Errorf("HoleLeast(%v) = %v has the spare classes %v", s, least, places)
		}
		if again := leastOf(t, least); !slices.Equal(again, least) {
			t.Errorf("HoleLeast(%v) = %v is not its own, but has %v", s, least, again)
		}
	}
}

func TestP25Values(t *testing.T) {
	for _, e := range []struct {
		s, least []class
	}{
		{system(0, 1), system(0, 1)}, {system(0, 1000), system(0, 1000)}, {system(0, 3, 0, 2), system(0, 3, 0, 2)}, {residues(0, 8, 8), residues(0, 8, 8)},
		{manyTimes(2, pair(0, 2)), system(0, 2)}, {manyTimes(8, pair(0, 1)), system(0, 1)}, {manyTimes(8, pair(999, 1000)), system(999, 1000)},
		{system(0, 2, 1, 3, 0, 2), system(0, 2, 1, 3)}, {system(1, 3, 0, 2, 1, 3, 0, 2), system(1, 3, 0, 2)},
		// All three are spare, and the last one goes first.
		{system(0, 2, 1, 2, 0, 1), system(0, 2, 1, 2)}, {system(0, 1, 0, 2, 1, 2), system(0, 1)}, {system(0, 2, 0, 1, 1, 2), system(0, 1)},
		{system(0, 2, 1, 2, 0, 3, 1, 3, 2, 3), system(0, 2, 1, 2)}, {system(0, 3, 1, 3, 2, 3, 0, 2, 1, 2), residues(0, 3, 3)},
		{system(0, 2, 0, 4, 2, 4), system(0, 2)}, {system(0, 4, 2, 4, 0, 2), system(0, 4, 2, 4)}, {system(0, 4, 0, 2, 2, 4), system(0, 2)},
		// The last class stays, and the one ahead of it goes.
		{system(0, 4, 0, 2), system(0, 2)}, {system(999, 1000, 0, 1), system(0, 1)}, {append(residues(0, 7, 7), pair(0, 1)), residues(0, 7, 7)},
		{append(system(0, 1), residues(0, 7, 7)...), system(0, 1)}, {system(4, 8, 0, 2, 1, 4, 4, 8), system(0, 2, 1, 4)},
	} {
		if least, ok := impl.HoleLeast(e.s); !ok || !slices.Equal(least, e.least) {
			t.Errorf("HoleLeast(%v) = %v, %v", e.s, least, ok)
		}
	}
}

func TestP25Invalid(t *testing.T) {
	for _, s := range noSystems() {
		if least, ok := impl.HoleLeast(s); ok || len(least) != 0 {
			t.Errorf("HoleLeast(%v) = %v, %v", s, least, ok)
		}
	}
}

// TestP26 checks promise 26.
func TestP26(t *testing.T) {
	few := 0
	for _, s := range holeSystems() {
		fill, ok := impl.HoleFill(s)
		want := fillBySearch(s)
		if len(want) > 20 {
			want = nil
		}
		if ok != (len(holesBySearch(s, 0, periodBySearch(s))) <= 20) || !slices.Equal(fill, want) {
			t.Errorf("HoleFill(%v) = %v, %v, and not %v", s, fill, ok, want)
		}
		both := slices.Concat(s, fill)
		if !ok || len(both) > impl.SystemMax {
			continue
		}
		few++
		if !impl.SystemAll(both) {
			t.Errorf("HoleFill(%v) = %v, and both together do not cover all", s, fill)
		}
	}
	if few == 0 {
		t.Errorf("no system is filled with few enough classes")
	}
}

func TestP26Values(t *testing.T) {
	for _, e := range []struct {
		s, fill []class
	}{
		{system(0, 1), nil}, {manyTimes(8, pair(0, 1)), nil}, {residues(0, 8, 8), nil}, {system(0, 1, 999, 1000), nil},
		{system(0, 2), system(1, 2)}, {manyTimes(8, pair(0, 2)), system(1, 2)}, {system(1, 2), system(0, 2)}, {system(0, 2, 0, 3), system(1, 6, 5, 6)},
		{system(0, 2, 0, 4), system(1, 4, 3, 4)}, {system(4, 9, 0, 9, 2, 9), system(1, 9, 3, 9, 5, 9, 6, 9, 7, 9, 8, 9)}, {system(3, 7), append(residues(0, 3, 7), residues(4, 7, 7)...)},
		{system(0, 2, 1, 4, 3, 8, 7, 16, 15, 32, 31, 64, 63, 128, 127, 256), system(255, 256)},
		// Just 20 holes, and 19.
		{system(0, 21), residues(1, 21, 21)}, {system(20, 21), residues(0, 20, 21)}, {manyTimes(8, pair(20, 21)), residues(0, 20, 21)},
		{residues(0, 8, 28), residues(8, 28, 28)}, {system(0, 20), residues(1, 20, 20)},
	} {
		if fill, ok := impl.HoleFill(e.s); !ok || !slices.Equal(fill, e.fill) {
			t.Errorf("HoleFill(%v) = %v, %v", e.s, fill, ok)
		}
	}
	if fill := fillOf(t, system(0, 4, 1, 4, 2, 4, 3, 84)); len(fill) != 20 || fill[0] != pair(7, 84) || fill[19] != pair(83, 84) {
		t.Errorf("HoleFill of a system with the period 84 and 20 holes is %v", fill)
	}
}

func TestP26Invalid(t *testing.T) {
	// More than 20 holes.
	for _, s := range [][]class{
		system(0, 22), system(21, 22), manyTimes(8, pair(0, 22)), residues(0, 8, 29), system(0, 2, 0, 42), system(0, 2, 1, 44), system(0, 2, 1, 100),
		system(0, 1000), system(7, 8, 124, 125), residues(0, 8, 1000), system(0, 4, 1, 4, 2, 4, 3, 88),
	} {
		if fill, ok := impl.HoleFill(s); ok || len(fill) != 0 {
			t.Errorf("HoleFill(%v) = %v, %v", s, fill, ok)
		}
	}
	for _, s := range noSystems() {
		if fill, ok := impl.HoleFill(s); ok || len(fill) != 0 {
			t.Errorf("HoleFill(%v) = %v, %v", s, fill, ok)
		}
	}
}

// TestP27 checks promise 27.
func TestP27(t *testing.T) {
	for _, s := range holeSystems() {
		a, b, ok := impl.HoleWorst(s)
		if wantA, wantB := worstBySearch(s); !ok || a != wantA || b != wantB {
			t.Errorf("HoleWorst(%v) = %d, %d, %v, and not %d and %d", s, a, b, ok, wantA, wantB)
			continue
		}
		if a > b {
			t.Errorf("HoleWorst(%v) = %d, %d", s, a, b)
		}
		if p, n := periodOf(t, s), len(holesOf(t, s)); p%b != 0 || a*(p/b) != n {
			t.Errorf("HoleWorst(%v) = %d, %d, the period is %d, and there are %d holes", s, a, b, p, n)
		}
	}
}

func TestP27Values(t *testing.T) {
	for _, e := range []struct {
		s    []class
		a, b int
	}{
		{system(0, 1), 0, 1}, {manyTimes(8, pair(0, 1)), 0, 1}, {residues(0, 8, 8), 0, 1}, {system(0, 1, 999, 1000), 0, 1}, {system(0, 2, 0, 3, 1, 4, 5, 6, 7, 12), 0, 1},
		{system(0, 2), 1, 2}, {manyTimes(8, pair(0, 2)), 1, 2}, {system(0, 2, 0, 4), 1, 2}, {system(0, 2, 2, 1000), 1, 2}, {system(0, 2, 0, 3), 1, 3},
		{system(0, 1000), 999, 1000}, {system(999, 1000, 499, 1000), 499, 500}, {residues(0, 8, 1000), 124, 125}, {system(7, 8, 124, 125), 217, 250},
		{residues(0, 7, 9), 2, 9}, {residues(0, 6, 9), 1, 3}, {system(0, 3), 2, 3}, {system(0, 2, 0, 2, 1, 6), 1, 3},
	} {
		if a, b, ok := impl.HoleWorst(e.s); !ok || a != e.a || b != e.b {
			t.Errorf("HoleWorst(%v) = %d, %d, %v", e.s, a, b, ok)
		}
	}
}

func TestP27Invalid(t *testing.T) {
	for _, s := range noSystems() {
		if a, b, ok := impl.HoleWorst(s); ok || a != 0 || b != 0 {
			t.Errorf("HoleWorst(%v) = %d, %d, %v", s, a, b, ok)
		}
	}
}

// TestP28 checks promise 28.
func TestP28(t *testing.T) {
	did, failed := 0, 0
	for _, s := range meetSystems() {
		for _, u := range meetSystems() {
			meet, ok := impl.HoleMeet(s, u)
			if ok != canMeet(s, u) {
				t.Errorf("HoleMeet(%v, %v) = %v, %v", s, u, meet, ok)
			}
			if !ok {
				failed++
				continue
			}
			did++
			for x := range 100 {
				if (timesAt(meet, x) > 0) != (timesAt(s, x) > 0 && timesAt(u, x) > 0) {
					t.Errorf("HoleMeet(%v, %v) = %v is wrong of %d", s, u, meet, x)
				}
			}
		}
	}
	if did == 0 || failed == 0 {
		t.Errorf("%d times, HoleMeet succeeds, and %d times, it fails", did, failed)
	}
}

func TestP28Search(t *testing.T) {
	list := slices.Concat(greatSystems(), spareSystems(), shortSystems(2, 3))
	for _, s := range list {
		for _, u := range list {
			var want []class
			if canMeet(s, u) {
				want = pairsBySearch(s, u)
			}
			meet, ok := impl.HoleMeet(s, u)
			if ok != (len(want) > 0) || !slices.Equal(meet, want) {
				t.Errorf("HoleMeet(%v, %v) = %v, %v, and not %v", s, u, meet, ok, want)
			}
			if ok && !isSystem(meet) {
				t.Errorf("HoleMeet(%v, %v) = %v is no system", s, u, meet)
			}
		}
	}
}

func TestP28Values(t *testing.T) {
	for _, e := range []struct {
		s, u, meet []class
	}{
		{system(0, 1), system(0, 1), system(0, 1)}, {system(0, 1), system(999, 1000), system(999, 1000)}, {system(0, 2), system(0, 3), system(0, 6)},
		{system(1, 4), system(3, 6), system(9, 12)}, {system(3, 5), system(3, 5), system(3, 5)}, {system(1, 3, 0, 2), system(0, 1), system(1, 3, 0, 2)},
		// The order is that of the first ones and then of the second ones.
		{system(0, 2, 1, 2), system(2, 3, 0, 3), system(2, 6, 0, 6, 5, 6, 3, 6)}, {system(2, 3, 0, 3), system(0, 2, 1, 2), system(2, 6, 5, 6, 0, 6, 3, 6)},
		// Pairs without common numbers are left out, equal classes stay.
		{system(0, 2, 1, 2), system(1, 4, 0, 4), system(0, 4, 1, 4)}, {system(0, 2, 0, 2), system(0, 3), system(0, 6, 0, 6)}, {system(0, 2), system(1, 2, 0, 4, 1, 4), system(0, 4)},
		// Just 8 pairs with common numbers, of just 8 or of more.
		{manyTimes(8, pair(0, 1)), system(0, 2), manyTimes(8, pair(0, 2))}, {system(0, 2), manyTimes(8, pair(0, 1)), manyTimes(8, pair(0, 2))},
		{residues(0, 8, 8), system(0, 1), residues(0, 8, 8)}, {residues(0, 8, 8), residues(0, 8, 8), residues(0, 8, 8)},
		{residues(0, 8, 8), system(1, 2, 0, 2), residues(0, 8, 8)}, {system(1, 2, 0, 2), residues(0, 4, 4), system(1, 4, 3, 4, 0, 4, 2, 4)},
		{manyTimes(2, pair(0, 2)), manyTimes(4, pair(1, 3)), manyTimes(8, pair(4, 6))}, {manyTimes(4, pair(1, 3)), append(manyTimes(2, pair(0, 2)), pair(0, 3), pair(2, 3)), manyTimes(8, pair(4, 6))},
		// Both periods have just ModMax as their least common multiple.
		{system(0, 8), system(0, 125), system(0, 1000)}, {system(124, 125), system(7, 8), system(999, 1000)}, {system(0, 1000, 999, 1000), system(0, 1), system(0, 1000, 999, 1000)},
		{system(0, 40, 1, 25), system(1, 8), system(1, 200)}, {system(7, 8, 124, 125), system(7, 8), system(7, 8, 999, 1000)},
	} {
		if meet, ok := impl.HoleMeet(e.s, e.u); !ok || !slices.Equal(meet, e.meet) {
			t.Errorf("HoleMeet(%v, %v) = %v, %v", e.s, e.u, meet, ok)
		}
	}
}

func TestP28Fails(t *testing.T) {
	for _, e := range []struct{ s, u []class }{
		// No pair has common numbers.
		{system(0, 2), system(1, 2)}, {system(0, 2, 2, 4), system(1, 4, 3, 4)}, {residues(0, 4, 8), residues(4, 8, 8)}, {system(999, 1000), system(0, 1000)},
		// More than 8 pairs have some.
		{residues(0, 3, 3), residues(0, 3, 4)}, {manyTimes(3, pair(0, 1)), manyTimes(3, pair(0, 1))}, {manyTimes(8, pair(0, 1)), manyTimes(2, pair(0, 1))},
		{manyTimes(8, pair(0, 1)), manyTimes(8, pair(0, 1))}, {residues(0, 8, 8), system(0, 2, 1, 2, 0, 8)},
		// Both periods have too great a least common multiple: also where it is that of no pair, or of none with common numbers.
		{system(0, 7), system(0, 143)}, {system(0, 16), system(0, 125)}, {system(0, 1000), system(0, 999)}, {system(0, 1000, 0, 1), system(0, 16)},
		{system(0, 16, 0, 1), system(0, 125, 0, 1)}, {system(0, 16, 1, 2), system(0, 125)}, {system(0, 16, 1, 2), system(1, 250)}, {system(0, 2, 0, 25), system(0, 7, 0, 3)},
	} {
		for _, both := range [][2][]class{{e.s, e.u}, {e.u, e.s}} {
			if meet, ok := impl.HoleMeet(both[0], both[1]); ok || len(meet) != 0 {
				t.Errorf("HoleMeet(%v, %v) = %v, %v", both[0], both[1], meet, ok)
			}
		}
	}
}

func TestP28Invalid(t *testing.T) {
	for _, s := range noSystems() {
		for _, u := range slices.Concat(greatSystems(), shortSystems(1, 3), noSystems()) {
			if meet, ok := impl.HoleMeet(s, u); ok || len(meet) != 0 {
				t.Errorf("HoleMeet(%v, %v) = %v, %v", s, u, meet, ok)
			}
			if meet, ok := impl.HoleMeet(u, s); ok || len(meet) != 0 {
				t.Errorf("HoleMeet(%v, %v) = %v, %v", u, s, meet, ok)
			}
		}
	}
}

// callHoles calls each function of the chapter.
func callHoles(s []class, u []class) {
	impl.HoleFirst(s)
	impl.HoleRun(s)
	impl.HoleSpare(s)
	impl.HoleLeast(s)
	impl.HoleFill(s)
	impl.HoleWorst(s)
	impl.HoleMeet(s, u)
}

func TestHolesLeaveArguments(t *testing.T) {
	behind := []class{pair(9, 11), pair(-3, 0)}
	for _, s := range append(holeSystems(), noSystems()...) {
		whole := slices.Concat(s, behind)
		u := slices.Concat(behind[:1], s)
		callHoles(whole[:len(s)], u[1:])
		callHoles(u[1:], whole[:len(s)])
		if !slices.Equal(whole, slices.Concat(s, behind)) || !slices.Equal(u, slices.Concat(behind[:1], s)) {
			t.Errorf("%v has become %v and %v", s, whole, u)
		}
	}
}

func TestP24SharesNothing(t *testing.T) {
	s := manyTimes(3, pair(0, 2))
	first := spareOf(t, s)
	first[0] = 77
	_ = append(first[:1], 77)
	if again := spareOf(t, s); !slices.Equal(again, []int{0, 1, 2}) {
		t.Errorf("HoleSpare changed with an earlier result: %v", again)
	}
}

// TestP25SharesNothing takes a system that is its own least one, and one that is not.
func TestP25SharesNothing(t *testing.T) {
	for _, s := range [][]class{system(0, 2, 1, 4), system(0, 2, 1, 4, 0, 2), system(0, 6, 0, 2, 1, 4)} {
		whole := append(slices.Clone(s), pair(9, 11))
		least := leastOf(t, whole[:len(s)])
		least[0] = pair(7, 9)
		_ = append(least, pair(7, 9))
		_ = append(least[:1], pair(7, 9))
		if !slices.Equal(whole, append(slices.Clone(s), pair(9, 11))) {
			t.Errorf("the argument %v of HoleLeast changed with its result: %v", s, whole)
		}
		if again := leastOf(t, s); !slices.Equal(again, system(0, 2, 1, 4)) {
			t.Errorf("HoleLeast changed with an earlier result: %v", again)
		}
	}
}

func TestP26SharesNothing(t *testing.T) {
	s := system(0, 2, 0, 4)
	first := fillOf(t, s)
	first[0] = pair(7, 9)
	_ = append(first[:1], pair(7, 9))
	if again := fillOf(t, s); !slices.Equal(again, system(1, 4, 3, 4)) || !slices.Equal(s, system(0, 2, 0, 4)) {
		t.Errorf("HoleFill changed with an earlier result: %v of %v", again, s)
	}
}

// TestP28SharesNothing takes two systems of which each one alone is the result.
func TestP28SharesNothing(t *testing.T) {
	whole := system(0, 2, 1, 4, 9, 11)
	for _, e := range [][2][]class{{whole[:2], system(0, 1)}, {system(0, 1), whole[:2]}} {
		meet := meetOf(t, e[0], e[1])
		meet[0] = pair(7, 9)
		_ = append(meet, pair(7, 9))
		_ = append(meet[:1], pair(7, 9))
		if !slices.Equal(whole, system(0, 2, 1, 4, 9, 11)) {
			t.Errorf("an argument of HoleMeet changed with its result: %v", whole)
		}
		if again := meetOf(t, e[0], e[1]); !slices.Equal(again, system(0, 2, 1, 4)) {
			t.Errorf("HoleMeet changed with an earlier result: %v", again)
		}
	}
}
