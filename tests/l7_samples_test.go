package tests

import (
	"math"
	"slices"
	"testing"

	"loop.example/restcovers/impl"
)

// greatestCircle is the greatest number of places of a circle.
const greatestCircle = 24

// places are the numbers from one on and less than another one, each a step behind the one ahead of it.
func places(from int, end int, step int) []int {
	var list []int
	for x := from; x < end; x += step {
		list = append(list, x)
	}
	return list
}

// tilesOf are all tiles of a circle, or all with the place 0.
func tilesOf(n int, with0 bool) [][]int {
	var list [][]int
	for bits := 1; bits < 1<<n; bits++ {
		var a []int
		for x := range n {
			if bits>>x&1 == 1 {
				a = append(a, x)
			}
		}
		if !with0 || a[0] == 0 {
			list = append(list, a)
		}
	}
	return list
}

type circleTile struct {
	n int
	a []int
}

// greatTiles are of circles that have too many tiles to take all: with one place alone and with all places,
// with steps less than n, of tiles that tile and of such that do not.
func greatTiles() []circleTile {
	var list []circleTile
	for _, n := range []int{11, 12, 14, 15, 16, 18, 20, 21, 22, 23, 24} {
		for _, a := range [][]int{
			{0}, {n / 2}, {n - 1}, {0, 1}, {0, n - 1}, {0, n / 2}, {0, n/2 - 1}, {1, 1 + n/2}, {n/2 - 1, n - 1}, {0, 3}, {2, 7},
			{0, 1, 2}, {0, 1, 3}, {0, 4, 8}, {0, n / 3, n / 3 * 2}, {1, 5, n - 1}, {0, 1, 5, 6}, {0, 1, n / 2, n/2 + 1}, {0, 2, 5, n - 1}, {0, n / 4, n / 2, n / 4 * 3}, {3, 4, 7, 8},
			{0, 1, 2, 3, 4}, {0, 1, 4, 5, 8, 9}, {0, 2, 4, 6, 8, 10}, {0, 1, 2, n / 2, n/2 + 1, n/2 + 2},
			places(0, n, 2), places(1, n, 2), places(0, n, 3), places(2, n, 3), places(0, n, 4), places(0, n/2, 1), places(n/2, n, 1), places(0, n/3, 1),
			places(1, n, 1), places(0, n-1, 1), places(0, n, 1),
		} {
			if isTile(n, a) {
				list = append(list, circleTile{n: n, a: a})
			}
		}
	}
	return list
}

// eachTile gives out all tiles of circles with places up to a number, and the great ones.
func eachTile(most int, check func(n int, a []int)) {
	for n := 1; n <= most; n++ {
		for _, a := range tilesOf(n, false) {
			check(n, a)
		}
	}
	for _, e := range greatTiles() {
		check(e.n, e.a)
	}
}

// noCircles are out of the range of the numbers of places.
func noCircles() []int {
	return []int{0, -1, -2, -24, -1000, 25, 26, 48, 1000, math.MinInt, math.MinInt + 1, math.MaxInt - 1, math.MaxInt}
}

// noTiles are lists that are no tiles of a circle.
func noTiles(n int) [][]int {
	list := [][]int{
		nil, {},
		// Equal places, and descending ones.
		{0, 0}, {n - 1, n - 1}, {0, 0, 1}, {0, 1, 1}, {0, 1, 1, 2}, {1, 0}, {2, 1, 0}, {n - 1, 0}, {0, 2, 1}, {0, 2, 1, 3}, {1, 0, 2}, slices.Repeat([]int{0}, n+1), slices.Repeat([]int{0}, 5000),
		// No places of the circle.
		{n}, {n + 1}, {2 * n}, {0, n}, {0, 1, n}, {n - 1, n}, {0, 1000}, {-1}, {-n}, {-1, 0}, {-n, 0}, {-1, 0, 1}, {-1, n}, {-2, -1},
		{math.MinInt}, {math.MaxInt}, {0, math.MaxInt}, {math.MinInt, 0}, {math.MinInt, math.MaxInt}, {math.MaxInt, math.MinInt},
		places(0, n+1, 1), places(-1, n, 1), places(-1, n-1, 1), places(1, n+1, 1), places(0, 5000, 1),
	}
	backward := places(0, n, 1)
	slices.Reverse(backward)
	if n > 1 {
		list = append(list, backward)
	}
	return list
}

// eachNoTile gives out numbers and lists of which the number is no number of places, or the list no tile of the circle.
func eachNoTile(check func(n int, a []int)) {
	for _, n := range noCircles() {
		for _, a := range append(noTiles(greatestCircle), []int{0}, []int{1}, []int{0, 1}, []int{0, 12}, places(0, greatestCircle, 1)) {
			check(n, a)
		}
		if n > 0 && n <= 1000 {
			check(n, places(0, n, 1))
		}
	}
	for _, n := range []int{1, 2, 3, 4, 6, 12, 16, 23, 24} {
		for _, a := range noTiles(n) {
			check(n, a)
		}
	}
}

// noMoves are out of the range of the numbers by which tiles are moved.
func noMoves() []int {
	return []int{-1001, 1001, -1002, 1002, -2000, 1000000, math.MinInt, math.MinInt + 1, math.MaxInt - 1, math.MaxInt}
}

// someMoves are all numbers up to two circles, and the ends of the range.
func someMoves(n int) []int {
	return append(places(-2*n, 2*n+1, 1), -1000, -999, -998, -n*(999/n), n*(999/n), 998, 999, 1000)
}

// noScales are numbers that no tile is taken times.
func noScales() []int {
	return []int{0, -1, -2, -5, -1000, 1001, 1002, 2000, 1000000, math.MinInt, math.MinInt + 1, math.MaxInt - 1, math.MaxInt}
}

// isTile tells by the document's own words whether a list is a tile of a circle.
func isTile(n int, a []int) bool {
	if n < 1 || n > greatestCircle || len(a) < 1 {
		return false
	}
	for i, x := range a {
		if x < 0 || x > n-1 || i > 0 && a[i-1] >= x {
			return false
		}
	}
	return true
}

// tileByPlaces puts each number at its rest, and tells the places at which there is one, and whether there is just one at each.
func tileByPlaces(n int, list []int) ([]int, bool) {
	times := make([]int, n)
	for _, x := range list {
		times[restBySearch(x, n)]++
	}
	var a []int
	once := true
	for x, k := range times {
		if k > 0 {
			a = append(a, x)
		}
		once = once && k <= 1
	}
	return a, once
}

// changed is a list of what f makes of each number.
func changed(a []int, f func(x int) int) []int {
	var list []int
	for _, x := range a {
		list = append(list, f(x))
	}
	return list
}

// movedByPlaces is a tile moved by a number.
func movedByPlaces(n int, a []int, by int) []int {
	list, _ := tileByPlaces(n, changed(a, func(x int) int { return x + by }))
	return list
}

// scaledByPlaces is a tile times a number, if no two places become one.
func scaledByPlaces(n int, a []int, k int) ([]int, bool) {
	list, once := tileByPlaces(n, changed(a, func(x int) int { return x * k }))
	if !once {
		return nil, false
	}
	return list, true
}

// haveCommonDivisor tries all divisors greater than 1.
func haveCommonDivisor(k int, m int) bool {
	for d := 2; d <= k && d <= m; d++ {
		if k%d == 0 && m%d == 0 {
			return true
		}
	}
	return false
}

// stepBySearch moves a tile until it comes again.
func stepBySearch(n int, a []int) int {
	d := 1
	for !slices.Equal(movedByPlaces(n, a, d), a) {
		d++
	}
	return d
}

// bothBySearch tells by the document's own words whether two tiles tile the circle: each place is in just one way a sum.
func bothBySearch(n int, a []int, b []int) bool {
	for place := range n {
		ways := 0
		for _, x := range a {
			for _, y := range b {
				if (x+y)%n == place {
					ways++
				}
			}
		}
		if ways != 1 {
			return false
		}
	}
	return true
}

// secondsBySearch tries all tiles with the place 0.
func secondsBySearch(n int, a []int) [][]int {
	var list [][]int
	for _, b := range tilesOf(n, true) {
		if bothBySearch(n, a, b) {
			list = append(list, b)
		}
	}
	slices.SortFunc(list, slices.Compare)
	return list
}

// secondsByCover covers the least place that is not covered, in each way, again and again.
func secondsByCover(n int, a []int) [][]int {
	var list [][]int
	var cover func(b []int)
	cover = func(b []int) {
		covered := make([]bool, n)
		for _, x := range a {
			for _, y := range b {
				if covered[(x+y)%n] {
					return
				}
				covered[(x+y)%n] = true
			}
		}
		place := slices.Index(covered, false)
		if place < 0 {
			list = append(list, slices.Sorted(slices.Values(b)))
			return
		}
		for _, x := range a {
			cover(append(slices.Clone(b), (place-x+n)%n))
		}
	}
	cover([]int{0})
	slices.SortFunc(list, slices.Compare)
	return list
}

// tileMovedOf is TileMoved of a tile by a number in its range.
func tileMovedOf(t *testing.T, n int, a []int, by int) []int {
	t.Helper()
	list, ok := impl.TileMoved(n, a, by)
	if !ok {
		t.Fatalf("TileMoved(%d, %v, %d) fails", n, a, by)
	}
	return list
}

// stepOf is TileStep of a tile.
func stepOf(t *testing.T, n int, a []int) int {
	t.Helper()
	d, ok := impl.TileStep(n, a)
	if !ok {
		t.Fatalf("TileStep(%d, %v) fails", n, a)
	}
	return d
}

// countOf is TileCount of a tile.
func countOf(t *testing.T, n int, a []int) int {
	t.Helper()
	count, ok := impl.TileCount(n, a)
	if !ok {
		t.Fatalf("TileCount(%d, %v) fails", n, a)
	}
	return count
}
