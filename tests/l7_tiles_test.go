package tests

import (
	"math"
	"slices"
	"testing"

	"loop.example/restcovers/impl"
)

// TestP56 checks promise 56.
func TestP56(t *testing.T) {
	eachTile(11, func(n int, a []int) {
		if !impl.TileIn(n, a) {
			t.Errorf("%v is a tile of %d places, and TileIn does not hold", a, n)
			return
		}
		if list := tileMovedOf(t, n, a, n); !slices.Equal(list, a) {
			t.Errorf("TileMoved(%d, %v, %d) = %v", n, a, n, list)
		}
		if d := stepOf(t, n, a); d < 1 || n%d != 0 {
			t.Errorf("TileStep(%d, %v) = %d", n, a, d)
		}
	})
}

// TestP56Ranges tries all lists of up to 4 numbers about small circles, and of up to 2 about great ones.
func TestP56Ranges(t *testing.T) {
	check := func(n int, a []int) {
		if in := impl.TileIn(n, a); in != isTile(n, a) {
			t.Errorf("TileIn(%d, %v) is %v", n, a, in)
		}
	}
	for n := -2; n <= 27; n++ {
		check(n, nil)
		for x := -2; x <= 27; x++ {
			check(n, []int{x})
			for y := -2; y <= 27; y++ {
				check(n, []int{x, y})
			}
		}
		for m := range 30 {
			check(n, places(0, m, 1))
			check(n, places(-1, m, 1))
			check(n, places(0, m, 2))
		}
	}
	for n := range 5 {
		for _, x := range places(-1, 6, 1) {
			for _, y := range places(-1, 6, 1) {
				for _, z := range places(-1, 6, 1) {
					check(n, []int{x, y, z})
					for _, u := range places(-1, 6, 1) {
						check(n, []int{x, y, z, u})
					}
				}
			}
		}
	}
}

func TestP56Values(t *testing.T) {
	for _, e := range []struct {
		n  int
		a  []int
		in bool
	}{
		{1, []int{0}, true}, {2, []int{0}, true}, {2, []int{1}, true}, {2, []int{0, 1}, true}, {6, []int{0, 3}, true}, {6, []int{1, 2, 5}, true}, {24, []int{23}, true}, {24, []int{0, 23}, true}, {24, places(0, 24, 1), true}, {23, places(0, 23, 1), true},
		// Circles out of the range, with lists that are tiles of others.
		{0, []int{0}, false}, {-1, []int{0}, false}, {-6, []int{0, 3}, false}, {25, []int{0}, false}, {25, []int{0, 3}, false}, {25, places(0, 25, 1), false}, {math.MaxInt, []int{0}, false}, {math.MinInt, []int{0}, false}, {0, nil, false},
		// Lists that are no tiles.
		{1, nil, false}, {24, []int{}, false}, {1, []int{1}, false}, {1, []int{-1}, false}, {1, []int{0, 0}, false}, {1, []int{0, 1}, false}, {6, []int{3, 0}, false}, {6, []int{0, 3, 3}, false}, {6, []int{0, 0, 3}, false}, {6, []int{0, 3, 2}, false}, {6, []int{6}, false}, {6, []int{0, 6}, false}, {6, []int{-1}, false}, {6, []int{-1, 3}, false}, {24, []int{24}, false}, {24, places(0, 25, 1), false}, {23, places(0, 24, 1), false},
	} {
		if in := impl.TileIn(e.n, e.a); in != e.in {
			t.Errorf("TileIn(%d, %v) is %v", e.n, e.a, in)
		}
	}
}

func TestP56Invalid(t *testing.T) {
	eachNoTile(func(n int, a []int) {
		if isTile(n, a) || impl.TileIn(n, a) {
			t.Errorf("TileIn(%d, %v) is %v", n, a, impl.TileIn(n, a))
		}
	})
}

// checkBoth checks promise 57 for two tiles, and holds TileBoth against a search.
func checkBoth(t *testing.T, n int, a []int, b []int) bool {
	t.Helper()
	both := impl.TileBoth(n, a, b)
	if both != bothBySearch(n, a, b) {
		t.Errorf("TileBoth(%d, %v, %v) is %v", n, a, b, both)
	}
	if !both {
		return false
	}
	if !impl.TileBoth(n, b, a) || !impl.TileBoth(n, tileMovedOf(t, n, a, 5), b) || len(a)*len(b) != n {
		t.Errorf("TileBoth(%d, %v, %v) holds, but not for both exchanged or moved, or there are too many sums", n, a, b)
	}
	return true
}

// TestP57 checks promise 57 for all pairs of tiles of small circles.
func TestP57(t *testing.T) {
	did, failed := 0, 0
	for n := 1; n <= 8; n++ {
		for _, a := range tilesOf(n, false) {
			for _, b := range tilesOf(n, false) {
				if checkBoth(t, n, a, b) {
					did++
				} else {
					failed++
				}
			}
		}
	}
	if did == 0 || failed == 0 {
		t.Errorf("%d times, TileBoth holds, and %d times, it does not", did, failed)
	}
}

// TestP57Great takes all pairs of great tiles of one circle, and each one with those that are found for it.
func TestP57Great(t *testing.T) {
	for _, e := range greatTiles() {
		for _, f := range greatTiles() {
			if e.n == f.n {
				checkBoth(t, e.n, e.a, f.a)
			}
		}
		for i, b := range secondsByCover(e.n, e.a) {
			if i%37 == 0 && !checkBoth(t, e.n, e.a, b) {
				t.Errorf("TileBoth(%d, %v, %v) does not hold", e.n, e.a, b)
			}
		}
	}
}

func TestP57Values(t *testing.T) {
	for _, e := range []struct {
		n    int
		a, b []int
		both bool
	}{
		{4, []int{0, 1}, []int{0, 2}, true}, {4, []int{0, 1}, []int{1, 3}, true}, {4, []int{1, 2}, []int{1, 3}, true}, {6, []int{0, 3}, []int{0, 1, 2}, true}, {6, []int{0, 3}, []int{0, 2, 4}, true}, {6, []int{0, 3}, []int{0, 4, 5}, true}, {6, []int{2, 5}, []int{0, 1, 5}, true},
		{12, []int{0, 1, 6, 7}, []int{0, 2, 4}, true}, {24, places(0, 12, 1), []int{0, 12}, true}, {24, places(0, 24, 2), []int{4, 23}, true}, {24, []int{5, 6, 7}, places(2, 24, 3), true},
		// One place alone, and all places.
		{1, []int{0}, []int{0}, true}, {2, []int{0}, []int{0, 1}, true}, {2, []int{1}, []int{0, 1}, true}, {5, []int{3}, places(0, 5, 1), true}, {5, places(0, 5, 1), []int{4}, true}, {24, []int{23}, places(0, 24, 1), true}, {24, places(0, 24, 1), []int{0}, true},
		// The product of the numbers of places is n, but the two do not tile.
		{4, []int{0, 1}, []int{0, 1}, false}, {4, []int{0, 2}, []int{0, 2}, false}, {4, []int{0, 2}, []int{1, 3}, false}, {4, []int{0, 1}, []int{0, 3}, false}, {6, []int{0, 3}, []int{0, 1, 3}, false}, {6, []int{0, 1}, []int{0, 1, 2}, false}, {6, []int{0, 2, 4}, []int{0, 2}, false}, {9, []int{0, 3, 6}, []int{0, 3, 6}, false}, {24, []int{0, 12}, []int{0, 1, 2, 3, 4, 5, 6, 7, 8, 9, 10, 12}, false}, {24, places(0, 24, 2), []int{0, 12}, false},
		// Other products: a place is no sum, or one in several ways.
		{2, []int{0}, []int{0}, false}, {4, []int{0}, []int{0}, false}, {4, []int{0, 1}, []int{0}, false}, {4, []int{0, 1}, []int{0, 1, 2}, false}, {4, []int{0, 1}, []int{0, 1, 2, 3}, false}, {4, places(0, 4, 1), places(0, 4, 1), false}, {5, []int{0, 1}, []int{0, 2}, false}, {5, []int{0, 1}, []int{0, 2, 4}, false}, {6, []int{0, 1}, []int{0, 2}, false}, {24, places(0, 24, 1), places(0, 24, 1), false}, {24, []int{0}, places(0, 23, 1), false},
	} {
		if both := impl.TileBoth(e.n, e.a, e.b); both != e.both {
			t.Errorf("TileBoth(%d, %v, %v) is %v", e.n, e.a, e.b, both)
		}
	}
}

// eachNoTwo gives out two lists of which one at least is no tile, or a number that is no number of places.
func eachNoTwo(check func(n int, a []int, b []int)) {
	eachNoTile(func(n int, a []int) {
		for _, b := range [][]int{nil, a, {0}, {0, 1}, {0, 12}, places(0, 24, 1)} {
			check(n, a, b)
			check(n, b, a)
		}
		if n >= 1 && n <= greatestCircle {
			check(n, a, places(0, n, 1))
			check(n, places(0, n, 1), a)
			check(n, a, places(0, n, 2))
		}
	})
}

func TestP57Invalid(t *testing.T) {
	eachNoTwo(func(n int, a []int, b []int) {
		if impl.TileBoth(n, a, b) {
			t.Errorf("TileBoth(%d, %v, %v) holds", n, a, b)
		}
	})
	// The rests of the sums of these are all places, each one once.
	for _, e := range []struct {
		n    int
		a, b []int
	}{{4, []int{1, 0}, []int{0, 2}}, {4, []int{0, 1}, []int{2, 0}}, {4, []int{0, 5}, []int{0, 2}}, {4, []int{0, 1}, []int{0, 6}}, {4, []int{-4, 1}, []int{0, 2}}, {4, []int{0, 1}, []int{-2, 0}}, {1, []int{1}, []int{0}}, {1, []int{0}, []int{-1}}, {26, places(0, 13, 1), []int{0, 13}}, {25, []int{0}, places(0, 25, 1)}} {
		if impl.TileBoth(e.n, e.a, e.b) {
			t.Errorf("TileBoth(%d, %v, %v) holds", e.n, e.a, e.b)
		}
	}
}

// checkMoved checks promise 58 for a tile, and holds TileMoved against a search.
func checkMoved(t *testing.T, n int, a []int, by int) {
	t.Helper()
	list := tileMovedOf(t, n, a, by)
	if want := movedByPlaces(n, a, by); !slices.Equal(list, want) {
		t.Errorf("TileMoved(%d, %v, %d) = %v and not %v", n, a, by, list, want)
		return
	}
	if back := tileMovedOf(t, n, list, -by); !slices.Equal(back, a) {
		t.Errorf("TileMoved(%d, %v, %d) = %v, which leads back to %v", n, a, by, list, back)
	}
	if d, again := stepOf(t, n, a), stepOf(t, n, list); d != again {
		t.Errorf("TileMoved(%d, %v, %d) = %v, and the steps are %d and %d", n, a, by, list, d, again)
	}
}

// TestP58 checks promise 58.
func TestP58(t *testing.T) {
	eachTile(7, func(n int, a []int) {
		for _, by := range someMoves(n) {
			checkMoved(t, n, a, by)
		}
	})
	for by := -1000; by <= 1000; by++ {
		checkMoved(t, 1, []int{0}, by)
		checkMoved(t, 7, []int{1, 2, 4}, by)
		checkMoved(t, 24, []int{0, 1, 5, 12, 23}, by)
	}
}

func TestP58Values(t *testing.T) {
	for _, e := range []struct {
		n    int
		a    []int
		by   int
		want []int
	}{
		// By 0, and by n.
		{6, []int{0, 1, 4}, 0, []int{0, 1, 4}}, {6, []int{0, 1, 4}, 6, []int{0, 1, 4}}, {6, []int{0, 1, 4}, -6, []int{0, 1, 4}}, {24, []int{0, 23}, 0, []int{0, 23}}, {24, []int{0, 23}, 24, []int{0, 23}}, {24, []int{3, 5}, 48, []int{3, 5}},
		{6, []int{0, 1, 4}, 1, []int{1, 2, 5}}, {6, []int{0, 1, 4}, 2, []int{0, 2, 3}}, {6, []int{0, 1, 4}, 5, []int{0, 3, 5}}, {6, []int{0, 1, 4}, 7, []int{1, 2, 5}}, {24, []int{0, 23}, 1, []int{0, 1}}, {6, []int{0, 3}, 3, []int{0, 3}}, {6, []int{0, 3}, 4, []int{1, 4}},
		// By negative numbers.
		{6, []int{0, 1, 4}, -1, []int{0, 3, 5}}, {6, []int{0, 1, 4}, -4, []int{0, 2, 3}}, {6, []int{0, 1, 4}, -7, []int{0, 3, 5}}, {24, []int{0, 1}, -1, []int{0, 23}}, {24, []int{0, 1}, -3, []int{21, 22}}, {5, []int{0}, -1, []int{4}},
		// By the ends of the range.
		{6, []int{0, 1, 4}, 1000, []int{2, 4, 5}}, {6, []int{0, 1, 4}, -1000, []int{0, 2, 3}}, {24, []int{23}, 1000, []int{15}}, {24, []int{0}, -1000, []int{8}}, {8, []int{0, 3}, 1000, []int{0, 3}}, {8, []int{0, 3}, -1000, []int{0, 3}},
		// One place alone, and all places.
		{1, []int{0}, 0, []int{0}}, {1, []int{0}, 1, []int{0}}, {1, []int{0}, -1, []int{0}}, {1, []int{0}, 1000, []int{0}}, {1, []int{0}, -1000, []int{0}}, {5, []int{4}, 1, []int{0}}, {5, []int{4}, 3, []int{2}}, {5, places(0, 5, 1), 3, places(0, 5, 1)}, {24, places(0, 24, 1), -1, places(0, 24, 1)},
	} {
		if list, ok := impl.TileMoved(e.n, e.a, e.by); !ok || !slices.Equal(list, e.want) {
			t.Errorf("TileMoved(%d, %v, %d) = %v, %v", e.n, e.a, e.by, list, ok)
		}
	}
}

func TestP58Invalid(t *testing.T) {
	check := func(n int, a []int, by int) {
		if list, ok := impl.TileMoved(n, a, by); ok || len(list) != 0 {
			t.Errorf("TileMoved(%d, %v, %d) = %v, %v", n, a, by, list, ok)
		}
	}
	eachNoTile(func(n int, a []int) {
		for _, by := range append(noMoves(), 0, 1, -1, 24, 1000, -1000) {
			check(n, a, by)
		}
	})
	for _, by := range noMoves() {
		eachTile(5, func(n int, a []int) {
			check(n, a, by)
		})
	}
}

// TestP59 checks promise 59, and holds TileStep against a search.
func TestP59(t *testing.T) {
	less := 0
	eachTile(11, func(n int, a []int) {
		d := stepOf(t, n, a)
		if want := stepBySearch(n, a); d != want {
			t.Errorf("TileStep(%d, %v) = %d and not %d", n, a, d, want)
			return
		}
		if list := tileMovedOf(t, n, a, d); !slices.Equal(list, a) {
			t.Errorf("TileStep(%d, %v) = %d, and moved by it, it is %v", n, a, d, list)
		}
		if len(a)*d%n != 0 {
			t.Errorf("TileStep(%d, %v) = %d", n, a, d)
		}
		if d < n {
			less++
		}
	})
	if less == 0 {
		t.Errorf("no step is less than n")
	}
}

func TestP59Values(t *testing.T) {
	for _, e := range []struct {
		n    int
		a    []int
		step int
	}{
		// One place alone: the step is n.
		{1, []int{0}, 1}, {2, []int{0}, 2}, {2, []int{1}, 2}, {5, []int{2}, 5}, {12, []int{6}, 12}, {24, []int{0}, 24}, {24, []int{7}, 24}, {24, []int{23}, 24},
		// All places: it is 1.
		{2, []int{0, 1}, 1}, {6, places(0, 6, 1), 1}, {23, places(0, 23, 1), 1}, {24, places(0, 24, 1), 1},
		// Others with n.
		{6, []int{0, 1}, 6}, {4, []int{0, 1, 3}, 4}, {24, []int{0, 1, 2}, 24}, {24, places(1, 24, 1), 24}, {24, places(0, 12, 1), 24}, {24, []int{0, 8}, 24}, {24, []int{0, 12, 13}, 24}, {23, places(0, 22, 1), 23}, {6, []int{0, 2}, 6},
		// Others with less than n.
		{6, []int{0, 3}, 3}, {6, []int{1, 4}, 3}, {6, []int{0, 2, 4}, 2}, {6, []int{1, 3, 5}, 2}, {12, []int{0, 1, 4, 5, 8, 9}, 4}, {12, []int{0, 2, 6, 8}, 6}, {12, []int{0, 1, 3, 6, 7, 9}, 6}, {24, []int{0, 12}, 12}, {24, []int{11, 23}, 12}, {24, []int{0, 1, 12, 13}, 12}, {24, []int{0, 8, 16}, 8}, {24, []int{0, 1, 8, 9, 16, 17}, 8}, {24, places(0, 24, 2), 2}, {24, places(1, 24, 2), 2}, {24, places(2, 24, 6), 6},
	} {
		if d, ok := impl.TileStep(e.n, e.a); !ok || d != e.step {
			t.Errorf("TileStep(%d, %v) = %d, %v", e.n, e.a, d, ok)
		}
	}
}

func TestP59Invalid(t *testing.T) {
	eachNoTile(func(n int, a []int) {
		if d, ok := impl.TileStep(n, a); ok || d != 0 {
			t.Errorf("TileStep(%d, %v) = %d, %v", n, a, d, ok)
		}
	})
}

// checkFind checks promises 60 and 61 for a tile whose second ones are known.
func checkFind(t *testing.T, n int, a []int, seconds [][]int) {
	t.Helper()
	b, ok := impl.TileFind(n, a)
	count := countOf(t, n, a)
	if count != len(seconds) || ok != (count > 0) {
		t.Errorf("TileFind(%d, %v) = %v, %v, and TileCount %d and not %d", n, a, b, ok, count, len(seconds))
		return
	}
	if !ok {
		if len(b) != 0 {
			t.Errorf("TileFind(%d, %v) = %v, %v", n, a, b, ok)
		}
		return
	}
	if !slices.Equal(b, seconds[0]) || b[0] != 0 || !impl.TileBoth(n, a, b) || !impl.TileBoth(n, b, a) {
		t.Errorf("TileFind(%d, %v) = %v and not %v", n, a, b, seconds[0])
	}
	if moved := tileMovedOf(t, n, a, 5); countOf(t, n, moved) != count {
		t.Errorf("TileCount(%d, %v) = %d, and moved by 5, it is %d", n, a, count, countOf(t, n, moved))
	}
}

// TestP60 checks promises 60 and 61 with the tiles of small circles, for which all second ones are tried.
func TestP60(t *testing.T) {
	for n := 1; n <= 8; n++ {
		for _, a := range tilesOf(n, false) {
			checkFind(t, n, a, secondsBySearch(n, a))
		}
	}
}

// TestP60Great checks both with greater circles, which are covered place by place.
func TestP60Great(t *testing.T) {
	none, several := 0, 0
	eachTile(11, func(n int, a []int) {
		seconds := secondsByCover(n, a)
		checkFind(t, n, a, seconds)
		if len(seconds) == 0 {
			none++
		} else if len(seconds) > 1 {
			several++
		}
	})
	if none == 0 || several == 0 {
		t.Errorf("%d tiles have no second one, and %d several ones", none, several)
	}
}

// TestP60Pairs takes all tiles of two and of three places of some great circles.
func TestP60Pairs(t *testing.T) {
	for _, n := range []int{12, 15, 18, 23, 24} {
		for x := range n {
			for y := x + 1; y < n; y++ {
				checkFind(t, n, []int{x, y}, secondsByCover(n, []int{x, y}))
				if z := (5*y + x) % n; x == 0 && z > y {
					checkFind(t, n, []int{x, y, z}, secondsByCover(n, []int{x, y, z}))
				}
			}
		}
	}
}

func TestP60Values(t *testing.T) {
	for _, e := range []struct {
		n     int
		a     []int
		first []int
	}{
		// One place alone, and all places.
		{1, []int{0}, []int{0}}, {2, []int{0}, []int{0, 1}}, {2, []int{1}, []int{0, 1}}, {4, []int{2}, []int{0, 1, 2, 3}}, {24, []int{0}, places(0, 24, 1)}, {24, []int{23}, places(0, 24, 1)}, {23, []int{11}, places(0, 23, 1)},
		{2, []int{0, 1}, []int{0}}, {5, places(0, 5, 1), []int{0}}, {24, places(0, 24, 1), []int{0}},
		// Several ones, of which the first one begins with the least places.
		{4, []int{0, 2}, []int{0, 1}}, {6, []int{0, 3}, []int{0, 1, 2}}, {6, []int{1, 4}, []int{0, 1, 2}}, {6, []int{0, 2, 4}, []int{0, 1}}, {8, []int{0, 4}, []int{0, 1, 2, 3}}, {8, []int{0, 2}, []int{0, 1, 4, 5}}, {8, []int{0, 1, 4, 5}, []int{0, 2}}, {9, []int{0, 3, 6}, []int{0, 1, 2}}, {12, []int{0, 6}, places(0, 6, 1)}, {12, []int{0, 1, 6, 7}, []int{0, 2, 4}}, {24, []int{0, 12}, places(0, 12, 1)}, {24, []int{3, 11, 19}, places(0, 8, 1)}, {24, []int{0, 6, 12, 18}, places(0, 6, 1)}, {24, places(1, 24, 2), []int{0, 1}}, {24, places(0, 24, 4), []int{0, 1, 2, 3}},
		// Just one.
		{4, []int{0, 1}, []int{0, 2}}, {4, []int{0, 3}, []int{0, 2}}, {4, []int{1, 2}, []int{0, 2}}, {6, []int{0, 1}, []int{0, 2, 4}}, {6, []int{0, 5}, []int{0, 2, 4}}, {6, []int{0, 1, 2}, []int{0, 3}}, {6, []int{0, 4, 5}, []int{0, 3}}, {8, []int{0, 3}, []int{0, 2, 4, 6}}, {9, []int{0, 1, 2}, []int{0, 3, 6}}, {9, []int{0, 1, 5}, []int{0, 3, 6}}, {12, []int{0, 1, 2, 3}, []int{0, 4, 8}}, {24, places(0, 12, 1), []int{0, 12}}, {24, []int{0, 1, 2}, places(0, 24, 3)},
	} {
		if b, ok := impl.TileFind(e.n, e.a); !ok || !slices.Equal(b, e.first) {
			t.Errorf("TileFind(%d, %v) = %v, %v", e.n, e.a, b, ok)
		}
	}
}

// tilesWithoutSecond have a number of places that does not divide n, or one that does, though each second one has a sum in several ways.
func tilesWithoutSecond() []circleTile {
	return []circleTile{
		{3, []int{0, 1}}, {3, []int{1, 2}}, {4, []int{0, 1, 2}}, {4, []int{0, 2, 3}}, {5, []int{0, 1}}, {8, []int{0, 1, 3}}, {23, []int{0, 1}}, {23, places(0, 22, 1)}, {24, places(1, 24, 1)}, {24, []int{0, 1, 2, 3, 4}}, {24, []int{0, 5, 10, 15, 20}},
		{6, []int{0, 1, 3}}, {6, []int{0, 2, 5}}, {8, []int{0, 1, 2, 4}}, {9, []int{0, 1, 3}}, {24, []int{0, 1, 3}}, {24, []int{0, 8, 15}}, {24, []int{0, 1, 2, 4}}, {24, []int{0, 1, 2, 3, 4, 6}},
	}
}

func TestP60Fails(t *testing.T) {
	for _, e := range tilesWithoutSecond() {
		if b, ok := impl.TileFind(e.n, e.a); ok || len(b) != 0 {
			t.Errorf("TileFind(%d, %v) = %v, %v", e.n, e.a, b, ok)
		}
	}
}

func TestP60Invalid(t *testing.T) {
	eachNoTile(func(n int, a []int) {
		if b, ok := impl.TileFind(n, a); ok || len(b) != 0 {
			t.Errorf("TileFind(%d, %v) = %v, %v", n, a, b, ok)
		}
	})
}

// TestP61 checks promise 61 with all tiles of greater circles that have the place 0.
func TestP61(t *testing.T) {
	for _, n := range []int{12, 13} {
		for _, a := range tilesOf(n, true) {
			count := countOf(t, n, a)
			if _, ok := impl.TileFind(n, a); ok != (count > 0) {
				t.Errorf("TileCount(%d, %v) = %d, and TileFind is %v", n, a, count, ok)
			}
			if moved := tileMovedOf(t, n, a, 5); countOf(t, n, moved) != count {
				t.Errorf("TileCount(%d, %v) = %d, and for %v it is %d", n, a, count, moved, countOf(t, n, moved))
			}
		}
	}
}

func TestP61Values(t *testing.T) {
	for _, e := range []struct {
		n     int
		a     []int
		count int
	}{
		{1, []int{0}, 1}, {2, []int{1}, 1}, {5, []int{3}, 1}, {24, []int{0}, 1}, {24, []int{23}, 1}, {2, []int{0, 1}, 1}, {23, places(0, 23, 1), 1}, {24, places(0, 24, 1), 1},
		{4, []int{0, 1}, 1}, {4, []int{0, 2}, 2}, {4, []int{1, 3}, 2}, {6, []int{0, 3}, 4}, {6, []int{2, 5}, 4}, {6, []int{0, 2, 4}, 3}, {6, []int{0, 1}, 1}, {8, []int{0, 4}, 8}, {8, []int{0, 2}, 2}, {8, []int{0, 1, 4, 5}, 2}, {9, []int{0, 3, 6}, 9}, {12, []int{0, 6}, 32},
		// One of the places that are apart by a step is taken for each rest by it.
		{24, []int{0, 12}, 2048}, {24, []int{7, 19}, 2048}, {24, []int{0, 8, 16}, 2187}, {24, []int{0, 6, 12, 18}, 1024}, {24, places(3, 24, 4), 216}, {24, places(0, 24, 3), 64}, {24, places(0, 24, 2), 12}, {21, []int{0, 7, 14}, 729}, {22, []int{0, 11}, 1024}, {24, places(0, 12, 1), 1}, {24, []int{0, 1}, 1},
	} {
		if count, ok := impl.TileCount(e.n, e.a); !ok || count != e.count {
			t.Errorf("TileCount(%d, %v) = %d, %v", e.n, e.a, count, ok)
		}
	}
	for _, e := range tilesWithoutSecond() {
		if count, ok := impl.TileCount(e.n, e.a); !ok || count != 0 {
			t.Errorf("TileCount(%d, %v) = %d, %v", e.n, e.a, count, ok)
		}
	}
}

func TestP61Invalid(t *testing.T) {
	eachNoTile(func(n int, a []int) {
		if count, ok := impl.TileCount(n, a); ok || count != 0 {
			t.Errorf("TileCount(%d, %v) = %d, %v", n, a, count, ok)
		}
	})
}

// checkScaled holds TileScaled against a search, and checks promise 62 for a tile if it is told to have a second one.
func checkScaled(t *testing.T, n int, a []int, k int, found bool) {
	t.Helper()
	list, ok := impl.TileScaled(n, a, k)
	want, once := scaledByPlaces(n, a, k)
	if ok != once || !slices.Equal(list, want) {
		t.Errorf("TileScaled(%d, %v, %d) = %v, %v and not %v, %v", n, a, k, list, ok, want, once)
		return
	}
	if !ok || !found || haveCommonDivisor(k, len(a)) {
		return
	}
	if _, ok := impl.TileFind(n, list); !ok {
		t.Errorf("TileFind(%d, %v) succeeds, and times %d, as %v, it fails", n, a, k, list)
	}
}

// TestP62 checks promise 62.
func TestP62(t *testing.T) {
	eachTile(8, func(n int, a []int) {
		_, found := impl.TileFind(n, a)
		for k := 1; k <= 2*n+3; k++ {
			checkScaled(t, n, a, k, found)
		}
		for _, k := range []int{97, 210, 499, 500, 720, 991, 997, 998, 999, 1000} {
			checkScaled(t, n, a, k, found)
		}
	})
}

func TestP62Values(t *testing.T) {
	for _, e := range []struct {
		n    int
		a    []int
		k    int
		want []int
	}{
		// Times 1, and times 1 more than n.
		{1, []int{0}, 1, []int{0}}, {6, []int{0, 1}, 1, []int{0, 1}}, {6, []int{0, 1}, 7, []int{0, 1}}, {24, []int{0, 5, 23}, 1, []int{0, 5, 23}}, {24, places(0, 24, 1), 1, places(0, 24, 1)}, {24, []int{0, 5, 23}, 25, []int{0, 5, 23}},
		{6, []int{0, 1}, 2, []int{0, 2}}, {6, []int{0, 1}, 3, []int{0, 3}}, {6, []int{0, 1}, 5, []int{0, 5}}, {6, []int{0, 1, 2}, 5, []int{0, 4, 5}}, {6, []int{0, 1, 2}, 2, []int{0, 2, 4}}, {7, []int{1, 2, 4}, 3, []int{3, 5, 6}}, {7, []int{1, 2, 4}, 2, []int{1, 2, 4}}, {24, []int{0, 12}, 7, []int{0, 12}}, {24, places(0, 24, 1), 5, places(0, 24, 1)},
		// Times 1000.
		{1, []int{0}, 1000, []int{0}}, {6, []int{0}, 1000, []int{0}}, {6, []int{1, 2}, 1000, []int{2, 4}}, {24, []int{0, 1, 2}, 1000, []int{0, 8, 16}}, {23, places(0, 23, 1), 1000, places(0, 23, 1)}, {23, []int{1, 22}, 1000, []int{11, 12}}, {24, []int{23}, 1000, []int{8}},
		// One place alone stays one, whatever the divisors are.
		{6, []int{5}, 6, []int{0}}, {6, []int{3}, 2, []int{0}}, {5, []int{2}, 1000, []int{0}}, {24, []int{7}, 12, []int{12}},
		// Two places become one.
		{2, []int{0, 1}, 2, nil}, {6, []int{0, 3}, 2, nil}, {6, []int{0, 1}, 6, nil}, {6, []int{0, 2, 4}, 3, nil}, {6, []int{0, 1, 2}, 3, nil}, {6, []int{1, 4, 5}, 2, nil}, {5, []int{0, 1, 2}, 1000, nil}, {24, []int{0, 3}, 1000, nil}, {24, places(0, 24, 1), 1000, nil}, {24, places(0, 24, 1), 2, nil}, {24, []int{0, 1, 2, 23}, 8, nil}, {24, []int{0, 12}, 2, nil}, {4, []int{1, 3}, 4, nil},
	} {
		if list, ok := impl.TileScaled(e.n, e.a, e.k); ok != (e.want != nil) || !slices.Equal(list, e.want) {
			t.Errorf("TileScaled(%d, %v, %d) = %v, %v", e.n, e.a, e.k, list, ok)
		}
	}
}

func TestP62Invalid(t *testing.T) {
	check := func(n int, a []int, k int) {
		if list, ok := impl.TileScaled(n, a, k); ok || len(list) != 0 {
			t.Errorf("TileScaled(%d, %v, %d) = %v, %v", n, a, k, list, ok)
		}
	}
	eachNoTile(func(n int, a []int) {
		for _, k := range append(noScales(), 1, 2, 5, 25, 1000) {
			check(n, a, k)
		}
	})
	for _, k := range noScales() {
		eachTile(5, func(n int, a []int) {
			check(n, a, k)
		})
	}
}

// checkSystem checks promise 63 for two tiles, and the classes themselves.
func checkSystem(t *testing.T, n int, a []int, b []int) {
	t.Helper()
	s, ok := impl.TileSystem(n, a, b)
	if both := bothBySearch(n, a, b) && len(a)+len(b) <= 16; ok != both || !ok && len(s) != 0 {
		t.Errorf("TileSystem(%d, %v, %v) = %v, %v", n, a, b, s, ok)
		return
	}
	if !ok {
		return
	}
	var want []class
	for _, y := range b {
		want = append(want, pair(y, n))
	}
	if !slices.Equal(s, want) {
		t.Errorf("TileSystem(%d, %v, %v) = %v and not %v", n, a, b, s, want)
	}
	if len(s) > 8 {
		if impl.SystemIn(s) {
			t.Errorf("%v is a system", s)
		}
	} else if !impl.SystemApart(s) || shareOf(t, s)*len(a) != n {
		t.Errorf("TileSystem(%d, %v, %v) = %v, which is apart: %v, and has the share %d", n, a, b, s, impl.SystemApart(s), shareOf(t, s))
	}
}

// TestP63 checks promise 63, in small circles for all pairs of tiles.
func TestP63(t *testing.T) {
	for n := 1; n <= 7; n++ {
		for _, a := range tilesOf(n, false) {
			for _, b := range tilesOf(n, false) {
				checkSystem(t, n, a, b)
			}
		}
	}
	for _, e := range greatTiles() {
		for i, b := range secondsByCover(e.n, e.a) {
			if i%37 == 0 {
				checkSystem(t, e.n, e.a, b)
				checkSystem(t, e.n, b, e.a)
				checkSystem(t, e.n, e.a, movedByPlaces(e.n, b, 5))
			}
		}
		checkSystem(t, e.n, e.a, e.a)
	}
}

func TestP63Values(t *testing.T) {
	for _, e := range []struct {
		n    int
		a, b []int
		want []class
	}{
		{1, []int{0}, []int{0}, system(0, 1)}, {4, []int{0, 1}, []int{0, 2}, system(0, 4, 2, 4)}, {4, []int{0, 1}, []int{1, 3}, system(1, 4, 3, 4)}, {4, []int{1, 3}, []int{0, 1}, system(0, 4, 1, 4)}, {6, []int{0, 3}, []int{0, 1, 2}, system(0, 6, 1, 6, 2, 6)}, {6, []int{0, 1, 2}, []int{2, 5}, system(2, 6, 5, 6)},
		{24, places(0, 12, 1), []int{0, 12}, system(0, 24, 12, 24)}, {24, []int{0, 1, 2}, places(0, 24, 3), system(0, 24, 3, 24, 6, 24, 9, 24, 12, 24, 15, 24, 18, 24, 21, 24)},
		// One place alone, and all places.
		{2, []int{1}, []int{0, 1}, residues(0, 2, 2)}, {5, places(0, 5, 1), []int{3}, system(3, 5)}, {8, []int{7}, places(0, 8, 1), residues(0, 8, 8)},
		// More classes than a system has.
		{9, []int{0}, places(0, 9, 1), residues(0, 9, 9)}, {24, []int{0, 12}, places(0, 12, 1), residues(0, 12, 24)}, {22, []int{0, 11}, places(11, 22, 1), residues(11, 22, 22)},
		// 16 places together.
		{15, []int{0}, places(0, 15, 1), residues(0, 15, 15)}, {15, []int{14}, places(0, 15, 1), residues(0, 15, 15)}, {15, places(0, 15, 1), []int{7}, system(7, 15)},
		// 17 places and more.
		{16, []int{0}, places(0, 16, 1), nil}, {16, []int{15}, places(0, 16, 1), nil}, {16, places(0, 16, 1), []int{0}, nil}, {17, []int{0}, places(0, 17, 1), nil}, {24, []int{0}, places(0, 24, 1), nil}, {24, places(0, 24, 1), []int{23}, nil},
		// Tiles that do not tile the circle, some of which are apart.
		{4, []int{0, 1}, []int{0, 1}, nil}, {4, []int{0}, []int{0}, nil}, {4, []int{0, 1}, []int{0}, nil}, {4, []int{0, 1}, []int{0, 1, 2}, nil}, {6, []int{0, 1, 3}, []int{0, 3}, nil}, {8, places(0, 8, 1), places(0, 8, 1), nil}, {24, []int{0, 1}, places(0, 14, 1), nil},
	} {
		if s, ok := impl.TileSystem(e.n, e.a, e.b); ok != (e.want != nil) || !slices.Equal(s, e.want) {
			t.Errorf("TileSystem(%d, %v, %v) = %v, %v", e.n, e.a, e.b, s, ok)
		}
	}
}

func TestP63Invalid(t *testing.T) {
	eachNoTwo(func(n int, a []int, b []int) {
		if s, ok := impl.TileSystem(n, a, b); ok || len(s) != 0 {
			t.Errorf("TileSystem(%d, %v, %v) = %v, %v", n, a, b, s, ok)
		}
	})
}

// callTiles calls each function of the chapter.
func callTiles(n int, a []int, b []int) {
	impl.TileIn(n, a)
	impl.TileBoth(n, a, b)
	impl.TileMoved(n, a, 5)
	impl.TileMoved(n, a, 0)
	impl.TileStep(n, a)
	impl.TileFind(n, a)
	impl.TileCount(n, a)
	impl.TileScaled(n, a, 5)
	impl.TileScaled(n, a, n)
	impl.TileSystem(n, a, b)
}

func TestTilesLeaveArguments(t *testing.T) {
	check := func(n int, a []int, b []int) {
		// What lies behind the lists stays, too.
		lists := [2][]int{slices.Concat(a, []int{77, 78, 79, 80}), slices.Concat(b, []int{3, 2, 1, 0})}
		before := [2][]int{slices.Clone(lists[0]), slices.Clone(lists[1])}
		callTiles(n, lists[0][:len(a)], lists[1][:len(b)])
		for i := range lists {
			if !slices.Equal(lists[i], before[i]) {
				t.Errorf("%v has become %v", before[i], lists[i])
			}
		}
	}
	eachTile(8, func(n int, a []int) {
		check(n, a, places(0, n, 1))
		check(n, a, a)
		if seconds := secondsByCover(n, a); len(seconds) > 0 {
			check(n, a, seconds[len(seconds)-1])
			check(n, seconds[0], a)
		}
	})
	eachNoTwo(check)
}

// TestTilesOneList passes one list as both tiles, and two that lie in one list.
func TestTilesOneList(t *testing.T) {
	one := []int{0}
	if s, ok := impl.TileSystem(1, one, one); !ok || !slices.Equal(s, system(0, 1)) || !slices.Equal(one, []int{0}) {
		t.Errorf("TileSystem of one list is %v, %v, and the list %v", s, ok, one)
	}
	lists := []int{0, 3, 0, 1, 2, 1}
	if s, ok := impl.TileSystem(6, lists[:2], lists[2:5]); !ok || !slices.Equal(s, system(0, 6, 1, 6, 2, 6)) || !impl.TileBoth(6, lists[2:5], lists[:2]) {
		t.Errorf("TileSystem of two tiles in one list is %v, %v", s, ok)
	}
	if list, ok := impl.TileMoved(6, lists[:2], 4); !ok || !slices.Equal(list, []int{1, 4}) || !slices.Equal(lists, []int{0, 3, 0, 1, 2, 1}) {
		t.Errorf("TileMoved of a part of a list is %v, %v, and the list %v", list, ok, lists)
	}
	if list, ok := impl.TileFind(6, lists[:0]); ok || len(list) != 0 {
		t.Errorf("TileFind looks behind the end of a list: %v, %v", list, ok)
	}
}

// TestP58SharesNothing also moves by 0 and by n, with which the result is the argument.
func TestP58SharesNothing(t *testing.T) {
	a := []int{0, 1, 4, 9}
	for _, by := range []int{0, 6, -6} {
		checkNew(t, "TileMoved", [][]int{a}, func() ([]int, bool) { return impl.TileMoved(6, a[:3], by) }, []int{0, 1, 4})
	}
	checkNew(t, "TileMoved", [][]int{a}, func() ([]int, bool) { return impl.TileMoved(6, a[:3], 1) }, []int{1, 2, 5})
	checkNew(t, "TileMoved", [][]int{a}, func() ([]int, bool) { return impl.TileMoved(1, a[:1], 7) }, []int{0})
}

// TestP60SharesNothing takes tiles for which there are several second ones, too.
func TestP60SharesNothing(t *testing.T) {
	a := []int{0, 3, 9}
	checkNew(t, "TileFind", [][]int{a}, func() ([]int, bool) { return impl.TileFind(6, a[:2]) }, []int{0, 1, 2})
	checkNew(t, "TileFind", [][]int{a}, func() ([]int, bool) { return impl.TileFind(4, a[:2]) }, []int{0, 2})
	checkNew(t, "TileFind", [][]int{a}, func() ([]int, bool) { return impl.TileFind(1, a[:1]) }, []int{0})
}

// TestP62SharesNothing also takes a tile times 1 and 7, with which the result is the argument.
func TestP62SharesNothing(t *testing.T) {
	a := []int{0, 1, 2, 9}
	for _, k := range []int{1, 7} {
		checkNew(t, "TileScaled", [][]int{a}, func() ([]int, bool) { return impl.TileScaled(6, a[:3], k) }, []int{0, 1, 2})
	}
	checkNew(t, "TileScaled", [][]int{a}, func() ([]int, bool) { return impl.TileScaled(6, a[:3], 5) }, []int{0, 4, 5})
}

func TestP63SharesNothing(t *testing.T) {
	a, b := []int{0, 1}, []int{0, 2}
	want := system(0, 4, 2, 4)
	first, _ := impl.TileSystem(4, a, b)
	second, ok := impl.TileSystem(4, a, b)
	if !ok || !slices.Equal(first, want) || !slices.Equal(second, want) {
		t.Fatalf("TileSystem is %v, and then %v, %v", first, second, ok)
	}
	first[0] = pair(7, 9)
	_ = append(first, pair(7, 9))
	_ = append(first[:1], pair(7, 9))
	if again, _ := impl.TileSystem(4, a, b); !slices.Equal(second, want) || !slices.Equal(again, want) {
		t.Errorf("TileSystem changed with an earlier result: %v and %v", second, again)
	}
	if !slices.Equal(a, []int{0, 1}) || !slices.Equal(b, []int{0, 2}) {
		t.Errorf("the arguments of TileSystem changed with its result: %v and %v", a, b)
	}
}
