package tests

import (
	"slices"
	"testing"

	"loop.example/restcovers/impl"
)

func TestSystemMax(t *testing.T) {
	if impl.SystemMax != 8 {
		t.Errorf("SystemMax is %d", impl.SystemMax)
	}
}

// TestP11 checks promise 11.
func TestP11(t *testing.T) {
	for _, s := range someSystems() {
		if !impl.SystemIn(s) {
			t.Errorf("SystemIn(%v) does not hold", s)
		}
		if !impl.SystemSame(s, s) {
			t.Errorf("SystemSame(%v) of itself does not hold", s)
		}
	}
}

func TestP11Ranges(t *testing.T) {
	for n := 0; n <= 20; n++ {
		for _, c := range []class{pair(0, 1), pair(1, 2), pair(999, 1000)} {
			if s := manyTimes(n, c); impl.SystemIn(s) != (1 <= n && n <= 8) {
				t.Errorf("SystemIn of %d classes %v is %v", n, c, impl.SystemIn(s))
			}
		}
	}
	for m := 1; m <= 1001; m++ {
		for _, d := range []class{pair(0, 1), pair(1, 2), pair(0, 7), pair(15, 16), pair(30, 31), pair(0, 125), pair(0, 143), pair(500, 501), pair(0, 999), pair(999, 1000), pair(0, 1001)} {
			if s := []class{pair(m-1, m), d}; impl.SystemIn(s) != isSystem(s) {
				t.Errorf("SystemIn(%v) is %v", s, impl.SystemIn(s))
			}
		}
	}
}

func TestP11Invalid(t *testing.T) {
	for _, s := range noSystems() {
		if isSystem(s) {
			t.Fatalf("%v is a system", s)
		}
		if impl.SystemIn(s) {
			t.Errorf("SystemIn(%v) holds", s)
		}
		if impl.SystemSame(s, s) {
			t.Errorf("SystemSame(%v) of itself holds", s)
		}
	}
}

// TestP12 checks promise 12.
func TestP12(t *testing.T) {
	for _, s := range someSystems() {
		p := periodOf(t, s)
		if p != periodBySearch(s) {
			t.Errorf("SystemPeriod(%v) = %d", s, p)
		}
		for _, c := range s {
			if p%c.Mod != 0 {
				t.Errorf("SystemPeriod(%v) = %d is no multiple of %d", s, p, c.Mod)
			}
		}
		if n := len(timesOf(t, s)); n != p {
			t.Errorf("SystemTimes(%v) has %d numbers, and the period is %d", s, n, p)
		}
	}
}

func TestP12Values(t *testing.T) {
	for _, e := range []struct {
		s []class
		p int
	}{
		{system(0, 1), 1}, {manyTimes(8, pair(0, 1)), 1}, {system(0, 4, 1, 6), 12}, {system(1, 6, 0, 4), 12}, {system(0, 2, 0, 4, 0, 8), 8},
		{system(0, 2, 0, 3, 0, 5, 0, 7), 210}, {system(7, 8, 124, 125), 1000}, {system(999, 1000), 1000}, {system(30, 31, 31, 32), 992},
		{system(0, 3, 0, 5, 0, 7, 0, 8, 1, 2, 1, 4, 1, 6, 1, 10), 840}, {system(0, 27, 0, 37), 999}, {system(0, 500, 0, 1000, 0, 250), 1000},
	} {
		if p, ok := impl.SystemPeriod(e.s); !ok || p != e.p {
			t.Errorf("SystemPeriod(%v) = %d, %v", e.s, p, ok)
		}
	}
}

func TestP12Invalid(t *testing.T) {
	for _, s := range noSystems() {
		if p, ok := impl.SystemPeriod(s); ok || p != 0 {
			t.Errorf("SystemPeriod(%v) = %d, %v", s, p, ok)
		}
		if times, ok := impl.SystemTimes(s); ok || len(times) != 0 {
			t.Errorf("SystemTimes(%v) = %v, %v", s, times, ok)
		}
	}
}

// TestP13 checks promise 13.
func TestP13(t *testing.T) {
	for _, s := range someSystems() {
		times := timesOf(t, s)
		if sum(times) != shareOf(t, s) {
			t.Errorf("SystemTimes(%v) has the sum %d, and the share is %d", s, sum(times), shareOf(t, s))
		}
		holes := holesOf(t, s)
		for x, n := range times {
			if n != timesAt(s, x) {
				t.Errorf("SystemTimes(%v) tells %d for %d", s, n, x)
			}
			if (n == 0) != slices.Contains(holes, x) {
				t.Errorf("SystemTimes(%v) tells %d for %d, and the holes are %v", s, n, x, holes)
			}
		}
	}
}

func TestP13Values(t *testing.T) {
	for _, e := range []struct {
		s     []class
		times []int
		share int
	}{
		{system(0, 1), []int{1}, 1}, {manyTimes(8, pair(0, 1)), []int{8}, 8},
		{manyTimes(2, pair(0, 2)), []int{2, 0}, 2}, {system(0, 2, 0, 4), []int{2, 0, 1, 0}, 3}, {system(1, 2, 0, 1), []int{1, 2}, 3},
		{system(0, 2, 0, 3, 1, 4, 5, 6, 7, 12), []int{2, 1, 1, 1, 1, 2, 2, 1, 1, 2, 1, 1}, 16},
		{manyTimes(8, pair(4, 5)), []int{0, 0, 0, 0, 8}, 8},
	} {
		if times, ok := impl.SystemTimes(e.s); !ok || !slices.Equal(times, e.times) {
			t.Errorf("SystemTimes(%v) = %v, %v", e.s, times, ok)
		}
		if share, ok := impl.SystemShare(e.s); !ok || share != e.share {
			t.Errorf("SystemShare(%v) = %d, %v", e.s, share, ok)
		}
	}
}

// TestP14 checks promise 14.
func TestP14(t *testing.T) {
	for _, s := range someSystems() {
		holes := holesOf(t, s)
		if want := holesBySearch(s, 0, periodBySearch(s)); !slices.Equal(holes, want) {
			t.Errorf("SystemHoles(%v) = %v and not %v", s, holes, want)
		}
		for _, x := range holes {
			for _, c := range s {
				if impl.ClassHas(c, x) {
					t.Errorf("%v has the hole %d of %v", c, x, s)
				}
			}
		}
		if (len(holes) == 0) != impl.SystemAll(s) {
			t.Errorf("SystemHoles(%v) = %v, and SystemAll is %v", s, holes, impl.SystemAll(s))
		}
	}
}

func TestP14Values(t *testing.T) {
	for _, e := range []struct {
		s     []class
		holes []int
	}{
		{system(0, 1), nil}, {manyTimes(8, pair(0, 1)), nil}, {system(4, 5, 0, 1), nil},
		{system(0, 2), []int{1}}, {manyTimes(8, pair(0, 2)), []int{1}}, {system(0, 2, 0, 4), []int{1, 3}}, {system(0, 2, 0, 3), []int{1, 5}},
		{residues(0, 8, 8), nil}, {residues(1, 8, 8), []int{0}}, {residues(0, 8, 12), []int{8, 9, 10, 11}},
		{system(0, 2, 0, 3, 1, 4, 5, 6), []int{7}}, {system(5, 6, 1, 4, 5, 6, 0, 3, 1, 4), []int{2, 4, 7, 8, 10}},
	} {
		if holes, ok := impl.SystemHoles(e.s); !ok || !slices.Equal(holes, e.holes) {
			t.Errorf("SystemHoles(%v) = %v, %v", e.s, holes, ok)
		}
	}
	if holes := holesOf(t, system(0, 1000)); len(holes) != 999 || holes[0] != 1 || holes[998] != 999 {
		t.Errorf("SystemHoles of the multiples of 1000 is %v", holes)
	}
}

func TestP14Invalid(t *testing.T) {
	for _, s := range noSystems() {
		if holes, ok := impl.SystemHoles(s); ok || len(holes) != 0 {
			t.Errorf("SystemHoles(%v) = %v, %v", s, holes, ok)
		}
	}
}

// TestP15 checks promise 15.
func TestP15(t *testing.T) {
	for _, s := range someSystems() {
		if impl.SystemAll(s) != allBySearch(s) {
			t.Errorf("SystemAll(%v) is %v", s, impl.SystemAll(s))
		}
		if !impl.SystemAll(s) {
			continue
		}
		if moved := movedOf(t, s, 7); !impl.SystemAll(moved) {
			t.Errorf("SystemAll holds for %v and not for %v", s, moved)
		}
		if shareOf(t, s) < periodOf(t, s) {
			t.Errorf("%v covers all with the share %d", s, shareOf(t, s))
		}
	}
}

func TestP15Values(t *testing.T) {
	for _, e := range []struct {
		s   []class
		all bool
	}{
		{system(0, 1), true}, {manyTimes(8, pair(0, 1)), true}, {system(0, 2, 1, 2), true}, {system(1, 2, 0, 2, 1, 2), true},
		{system(0, 2, 0, 3, 1, 4, 5, 6, 7, 12), true}, {residues(0, 8, 8), true}, {system(5, 1000, 0, 1), true},
		{system(0, 2), false}, {manyTimes(2, pair(0, 2)), false}, {manyTimes(8, pair(1, 8)), false}, {residues(0, 8, 9), false},
		{system(0, 2, 0, 3, 1, 4, 5, 6, 11, 12), false}, {system(999, 1000), false},
	} {
		if impl.SystemAll(e.s) != e.all {
			t.Errorf("SystemAll(%v) is %v", e.s, !e.all)
		}
	}
}

func TestP15Invalid(t *testing.T) {
	for _, s := range noSystems() {
		if impl.SystemAll(s) {
			t.Errorf("SystemAll(%v) holds", s)
		}
	}
}

// TestP16 checks promise 16.
func TestP16(t *testing.T) {
	for _, s := range someSystems() {
		if impl.SystemApart(s) != apartBySearch(s) {
			t.Errorf("SystemApart(%v) is %v", s, impl.SystemApart(s))
		}
		if !impl.SystemApart(s) {
			continue
		}
		if slices.Max(timesOf(t, s)) > 1 {
			t.Errorf("%v is apart with SystemTimes %v", s, timesOf(t, s))
		}
		if shareOf(t, s) > periodOf(t, s) {
			t.Errorf("%v is apart with the share %d", s, shareOf(t, s))
		}
	}
}

func TestP16Values(t *testing.T) {
	for _, e := range []struct {
		s     []class
		apart bool
	}{
		{system(0, 1), true}, {system(0, 2, 1, 2), true}, {system(0, 2, 1, 4), true}, {system(1, 6, 0, 4), true}, {residues(0, 8, 8), true},
		{residues(0, 8, 1000), true}, {system(0, 8, 1, 1000), true},
		// Equal classes have common numbers, beside each other and with others between.
		{manyTimes(2, pair(0, 1)), false}, {manyTimes(2, pair(0, 2)), false}, {manyTimes(8, pair(999, 1000)), false},
		{system(0, 3, 1, 3, 0, 3), false}, {system(4, 9, 5, 9, 6, 9, 7, 9, 8, 9, 1, 9, 2, 9, 4, 9), false},
		{system(0, 2, 0, 3), false}, {system(0, 1, 999, 1000), false}, {system(7, 8, 124, 125), false}, {system(0, 2, 1, 4, 3, 4, 3, 8), false},
	} {
		if impl.SystemApart(e.s) != e.apart {
			t.Errorf("SystemApart(%v) is %v", e.s, !e.apart)
		}
	}
}

func TestP16Invalid(t *testing.T) {
	for _, s := range noSystems() {
		if impl.SystemApart(s) {
			t.Errorf("SystemApart(%v) holds", s)
		}
	}
	// No two of these have common numbers, but there is one class too many.
	if s := residues(0, 9, 9); impl.SystemApart(s) || impl.SystemExact(s) {
		t.Errorf("%v is apart or exact", s)
	}
}

// TestP17 checks promise 17.
func TestP17(t *testing.T) {
	for _, s := range someSystems() {
		if impl.SystemExact(s) != (allBySearch(s) && apartBySearch(s)) {
			t.Errorf("SystemExact(%v) is %v", s, impl.SystemExact(s))
		}
		if !impl.SystemExact(s) {
			continue
		}
		if shareOf(t, s) != periodOf(t, s) {
			t.Errorf("%v is exact with the share %d", s, shareOf(t, s))
		}
		if moved := movedOf(t, s, 7); !impl.SystemExact(moved) {
			t.Errorf("SystemExact holds for %v and not for %v", s, moved)
		}
	}
}

func TestP17Values(t *testing.T) {
	for _, e := range []struct {
		s     []class
		exact bool
	}{
		{system(0, 1), true}, {system(0, 2, 1, 2), true}, {system(1, 2, 2, 4, 0, 4), true}, {residues(0, 8, 8), true},
		{system(0, 2, 1, 4, 3, 8, 7, 16, 15, 32, 31, 64, 63, 128, 127, 128), true}, {system(0, 2, 1, 6, 3, 6, 5, 12, 11, 12), true},
		{manyTimes(2, pair(0, 1)), false}, {manyTimes(2, pair(0, 2)), false}, {system(0, 2, 1, 2, 1, 2), false},
		{system(0, 2, 1, 4), false}, {system(0, 2, 0, 3, 1, 4, 5, 6, 7, 12), false}, {residues(0, 7, 8), false}, {system(999, 1000), false},
	} {
		if impl.SystemExact(e.s) != e.exact {
			t.Errorf("SystemExact(%v) is %v", e.s, !e.exact)
		}
	}
}

func TestP17Invalid(t *testing.T) {
	for _, s := range noSystems() {
		if impl.SystemExact(s) {
			t.Errorf("SystemExact(%v) holds", s)
		}
	}
}

// TestP18 checks promise 18.
func TestP18(t *testing.T) {
	neither, both := 0, 0
	for _, s := range append(someSystems(), shortSystems(3, 4)...) {
		if shareOf(t, s) != periodOf(t, s) {
			continue
		}
		if impl.SystemAll(s) != impl.SystemApart(s) {
			t.Errorf("%v has its period as its share, SystemAll is %v, and SystemApart %v", s, impl.SystemAll(s), impl.SystemApart(s))
		}
		if impl.SystemAll(s) {
			both++
		} else {
			neither++
		}
	}
	if neither == 0 || both == 0 {
		t.Errorf("%d systems with their period as their share cover all, and %d do not", both, neither)
	}
}

func TestP18Values(t *testing.T) {
	for _, e := range []struct {
		s     []class
		share int
		exact bool
	}{
		{manyTimes(2, pair(0, 2)), 2, false}, {manyTimes(8, pair(5, 8)), 8, false}, {system(0, 2, 0, 4, 3, 4), 4, false}, {system(0, 2, 0, 3, 5, 6), 6, false},
		{system(0, 1), 1, true}, {system(0, 2, 1, 4, 3, 4), 4, true}, {residues(0, 8, 8), 8, true},
	} {
		if share, period := shareOf(t, e.s), periodOf(t, e.s); share != e.share || period != e.share {
			t.Errorf("%v has the share %d and the period %d", e.s, share, period)
		}
		if impl.SystemAll(e.s) != e.exact || impl.SystemApart(e.s) != e.exact {
			t.Errorf("SystemAll(%v) is %v, and SystemApart %v", e.s, impl.SystemAll(e.s), impl.SystemApart(e.s))
		}
	}
}

func TestP18Invalid(t *testing.T) {
	for _, s := range noSystems() {
		if share, ok := impl.SystemShare(s); ok || share != 0 {
			t.Errorf("SystemShare(%v) = %d, %v", s, share, ok)
		}
	}
}

// TestP19 checks promise 19.
func TestP19(t *testing.T) {
	for _, s := range append(greatSystems(), shortSystems(2, 4)...) {
		for _, x := range someNumbers() {
			moved := movedOf(t, s, x)
			if !isSystem(moved) || len(moved) != len(s) {
				t.Fatalf("SystemMoved(%v, %d) = %v", s, x, moved)
			}
			for i, c := range moved {
				if c.Mod != s[i].Mod || !inClass(c, s[i].Rest+x) {
					t.Errorf("SystemMoved(%v, %d) = %v", s, x, moved)
				}
			}
			if back := movedOf(t, moved, -x); !slices.Equal(back, s) {
				t.Errorf("%v moved by %d and back is %v", s, x, back)
			}
		}
	}
}

func TestP19Holes(t *testing.T) {
	for _, s := range someSystems() {
		for _, x := range []int{-1000000, -999, -7, -1, 0, 1, 7, 501, 1000000} {
			moved := movedOf(t, s, x)
			if n, m := len(holesOf(t, s)), len(holesOf(t, moved)); n != m {
				t.Errorf("%v has %d holes and, moved by %d, %d", s, n, x, m)
			}
			for y := -10; y <= 10; y++ {
				if timesAt(moved, y+x) != timesAt(s, y) {
					t.Errorf("SystemMoved(%v, %d) = %v is wrong of %d", s, x, moved, y+x)
				}
			}
		}
	}
}

func TestP19Values(t *testing.T) {
	for _, e := range []struct {
		s     []class
		x     int
		moved []class
	}{
		{system(0, 1), 1000000, system(0, 1)}, {system(0, 1), -1000000, system(0, 1)}, {system(0, 2, 2, 3, 3, 4), 0, system(0, 2, 2, 3, 3, 4)},
		{system(0, 2, 2, 3, 3, 4), 1, system(1, 2, 0, 3, 0, 4)}, {system(0, 2, 2, 3, 3, 4), -1, system(1, 2, 1, 3, 2, 4)},
		{system(0, 999), 1000000, system(1, 999)}, {system(0, 999), -1000000, system(998, 999)}, {system(999, 1000), 1, system(0, 1000)},
		{manyTimes(8, pair(3, 7)), 1000000, manyTimes(8, pair(4, 7))}, {system(4, 5, 0, 5, 4, 5), -4, system(0, 5, 1, 5, 0, 5)},
	} {
		if moved, ok := impl.SystemMoved(e.s, e.x); !ok || !slices.Equal(moved, e.moved) {
			t.Errorf("SystemMoved(%v, %d) = %v, %v", e.s, e.x, moved, ok)
		}
	}
}

func TestP19Invalid(t *testing.T) {
	for _, s := range someSystems() {
		for _, x := range noNumbers() {
			if moved, ok := impl.SystemMoved(s, x); ok || len(moved) != 0 {
				t.Errorf("SystemMoved(%v, %d) = %v, %v", s, x, moved, ok)
			}
		}
	}
	for _, s := range noSystems() {
		for _, x := range append(noNumbers(), 0, 1, -1, 1000000, -1000000) {
			if moved, ok := impl.SystemMoved(s, x); ok || len(moved) != 0 {
				t.Errorf("SystemMoved(%v, %d) = %v, %v", s, x, moved, ok)
			}
		}
	}
}

// TestP20 checks promise 20.
func TestP20(t *testing.T) {
	list := slices.Concat(greatSystems(), shortSystems(1, 8), shortSystems(2, 4))
	for _, s := range list {
		for _, u := range list {
			same := impl.SystemSame(s, u)
			if same != impl.SystemSame(u, s) {
				t.Errorf("SystemSame(%v, %v) is %v, and the other one exchanged", s, u, same)
			}
			if same && impl.SystemAll(s) != impl.SystemAll(u) {
				t.Errorf("SystemSame(%v, %v) holds, and SystemAll for just one of both", s, u)
			}
		}
	}
}

func TestP20Search(t *testing.T) {
	for _, s := range shortSystems(2, 4) {
		for _, u := range shortSystems(2, 4) {
			if impl.SystemSame(s, u) != sameBySearch(s, u) {
				t.Errorf("SystemSame(%v, %v) is %v", s, u, impl.SystemSame(s, u))
			}
		}
	}
	for _, s := range greatSystems() {
		for _, u := range greatSystems() {
			if impl.SystemSame(s, u) != sameBySearch(s, u) {
				t.Errorf("SystemSame(%v, %v) is %v", s, u, impl.SystemSame(s, u))
			}
		}
	}
}

func TestP20Values(t *testing.T) {
	for _, e := range []struct {
		s, u []class
		same bool
	}{
		{system(0, 2), system(0, 4, 2, 4), true}, {system(1, 3), system(4, 6, 1, 6), true}, {system(0, 1), system(0, 3, 2, 3, 1, 3), true},
		{system(0, 2), manyTimes(8, pair(0, 2)), true}, {system(0, 2, 0, 4), system(0, 2), true}, {system(0, 1), system(0, 1, 999, 1000), true},
		{system(1, 2, 0, 5), system(0, 5, 1, 2, 5, 10), true}, {system(0, 500), system(0, 1000, 500, 1000), true},
		{system(0, 8, 1, 2), system(0, 8, 1, 2, 3, 250), true}, {system(0, 1, 7, 8), system(0, 1, 124, 125), true},
		// As many holes, or the same ones in one of both periods, but not the same ones.
		{system(0, 2), system(1, 2), false}, {system(0, 2), system(0, 4), false}, {system(0, 4), system(0, 2), false}, {system(1, 2), system(1, 6), false},
		{system(0, 1), system(0, 2, 1, 4), false}, {system(0, 500), system(0, 1000), false}, {system(0, 2, 1, 2), system(0, 2), false},
		// The least common multiple of both periods is too great, even where both cover all.
		{system(0, 1, 0, 7), system(0, 1, 0, 143), false}, {system(0, 1, 0, 16), system(0, 1, 0, 125), false},
		{system(0, 1, 0, 999), system(0, 1, 0, 1000), false}, {residues(0, 7, 7), append(residues(0, 2, 2), pair(0, 1000)), false},
	} {
		if impl.SystemSame(e.s, e.u) != e.same || impl.SystemSame(e.u, e.s) != e.same {
			t.Errorf("SystemSame(%v, %v) is not %v", e.s, e.u, e.same)
		}
	}
}

func TestP20Invalid(t *testing.T) {
	for _, s := range noSystems() {
		for _, u := range slices.Concat(greatSystems(), shortSystems(1, 3), noSystems()) {
			if impl.SystemSame(s, u) || impl.SystemSame(u, s) {
				t.Errorf("SystemSame(%v, %v) or exchanged holds", s, u)
			}
		}
	}
}

// callSystems calls each function of the chapter.
func callSystems(s []class, u []class) {
	impl.SystemIn(s)
	impl.SystemPeriod(s)
	impl.SystemTimes(s)
	impl.SystemHoles(s)
	impl.SystemAll(s)
	impl.SystemApart(s)
	impl.SystemExact(s)
	impl.SystemMoved(s, 7)
	impl.SystemShare(s)
	impl.SystemSame(s, u)
}

func TestSystemsLeaveArguments(t *testing.T) {
	behind := []class{pair(9, 11), pair(-3, 0)}
	for _, s := range append(someSystems(), noSystems()...) {
		whole := slices.Concat(s, behind)
		u := slices.Concat(behind[:1], s)
		callSystems(whole[:len(s)], u)
		if !slices.Equal(whole, slices.Concat(s, behind)) || !slices.Equal(u, slices.Concat(behind[:1], s)) {
			t.Errorf("%v has become %v and %v", s, whole, u)
		}
	}
}

func TestP13SharesNothing(t *testing.T) {
	s := system(0, 2, 0, 4)
	first := timesOf(t, s)
	first[0] = 77
	_ = append(first[:1], 77)
	if again := timesOf(t, s); !slices.Equal(again, []int{2, 0, 1, 0}) {
		t.Errorf("SystemTimes changed with an earlier result: %v", again)
	}
}

func TestP14SharesNothing(t *testing.T) {
	s := system(0, 2, 0, 4)
	first := holesOf(t, s)
	first[0] = 77
	_ = append(first[:1], 77)
	if again := holesOf(t, s); !slices.Equal(again, []int{1, 3}) {
		t.Errorf("SystemHoles changed with an earlier result: %v", again)
	}
}

func TestP19SharesNothing(t *testing.T) {
	whole := system(0, 2, 1, 4, 9, 11)
	s := whole[:2]
	moved := movedOf(t, s, 0)
	moved[0] = pair(7, 9)
	_ = append(moved, pair(7, 9))
	_ = append(moved[:1], pair(7, 9))
	if !slices.Equal(whole, system(0, 2, 1, 4, 9, 11)) {
		t.Errorf("the argument of SystemMoved changed with its result: %v", whole)
	}
	if again := movedOf(t, s, 0); !slices.Equal(again, s) {
		t.Errorf("SystemMoved changed with an earlier result: %v", again)
	}
}
