package tests

import (
	"cmp"
	"slices"
	"testing"

	"loop.example/g01060/impl"
)

// gallery is a wall and the Covers for it.
type gallery struct {
	wide, high int
	list       []impl.Cover
}

// coversOf takes Id, West, South, East, North and Price of each Cover.
func coversOf(rows ...[6]int) []impl.Cover {
	list := []impl.Cover{}
	for _, r := range rows {
		list = append(list, impl.Cover{Id: r[0], West: r[1], South: r[2], East: r[3], North: r[4], Price: r[5]})
	}
	return list
}

// hall returns a wall with Covers on it, over its edges, beyond it and of its size. Two pairs of
// them are mosaics, and one Cover alone is.
func hall() gallery {
	return gallery{6, 4, coversOf(
		[6]int{2, 0, 0, 4, 4, 30},
		[6]int{3, 3, -1, 9, 4, 40},
		[6]int{5, -20, -20, 2, 20, 10},
		[6]int{8, 2, 0, 6, 4, 70},
		[6]int{30, 5, 3, 7, 5, 1},
		[6]int{40, 6, 0, 20, 4, 1},
		[6]int{99, 0, 0, 6, 4, 1000},
	)}
}

// stripes returns n Covers of one column each, from the west to the east.
func stripes(n, high int) []impl.Cover {
	list := []impl.Cover{}
	for i := range n {
		list = append(list, impl.Cover{Id: 9 * (i + 1), West: i, East: i + 1, North: high, Price: 1 + i})
	}
	return list
}

// manyGalleries returns valid walls with lists of all sizes. Most have a mosaic, and often several
// that are just as good.
func manyGalleries() []gallery {
	galleries := []gallery{hall(), {1, 1, nil}, {10, 10, nil}, {10, 10, stripes(10, 10)}, {10, 1, stripes(10, 1)}, {1, 10, stripes(10, 10)}, {10, 10, stripes(9, 10)}}
	next := numbersFrom(7)
	for len(galleries) < 300 {
		g := gallery{wide: []int{1, 2, 3, 5, 10}[next(0, 4)], high: []int{1, 2, 3, 6, 10}[next(0, 4)]}
		id := []int{0, 0, 20, 89}[next(0, 3)]
		for len(g.list) < len(galleries)%11 {
			id++
			c := impl.Cover{Id: id, Price: []int{1, 2, 2, 3, 1000}[next(0, 4)]}
			c.West, c.East = side(g.wide, next)
			c.South, c.North = side(g.high, next)
			g.list = append(g.list, c)
			if id < 50 {
				id += next(0, 4)
			}
		}
		galleries = append(galleries, g)
	}
	return galleries
}

// side returns where a Cover begins and ends, often on an edge of the wall or in its middle.
func side(length int, next func(low, high int) int) (int, int) {
	places := []int{-20, -1, 0, 0, 0, length / 2, length / 2, length - 1, length, length, length, length + 1, 20, next(0, length)}
	for {
		from, to := places[next(0, 13)], places[next(0, 13)]
		if from < to {
			return from, to
		}
	}
}

// invalidCovers returns lists that are no Covers. In each of them 1 and 2, as they are in the
// list, would be a mosaic of a wall of 4 times 3.
func invalidCovers() map[string][]impl.Cover {
	lists := map[string][]impl.Cover{}
	good := coversOf([6]int{1, 0, 0, 2, 3, 5}, [6]int{2, 2, 0, 4, 3, 7})
	add := func(name string, row [6]int) { lists[name] = append(slices.Clone(good), coversOf(row)...) }
	add("an Id of 100", [6]int{100, 0, 0, 4, 3, 5})
	add("an Id again", [6]int{2, 0, 0, 4, 3, 5})
	add("an earlier Id", [6]int{1, 0, 0, 4, 3, 5})
	add("descending to 0", [6]int{0, 0, 0, 4, 3, 5})
	add("as wide as nothing", [6]int{3, 2, 0, 2, 3, 5})
	add("west of the west", [6]int{3, 3, 0, 2, 3, 5})
	add("as high as nothing", [6]int{3, 0, 1, 4, 1, 5})
	add("south of the south", [6]int{3, 0, 2, 4, 1, 5})
	add("both the wrong way round", [6]int{3, 4, 3, 0, 0, 5})
	add("West below -20", [6]int{3, -21, 0, 4, 3, 5})
	add("South below -20", [6]int{3, 0, -21, 4, 3, 5})
	add("East above 20", [6]int{3, 0, 0, 21, 3, 5})
	add("North above 20", [6]int{3, 0, 0, 4, 21, 5})
	add("beyond the wall", [6]int{3, 21, 21, 22, 22, 5})
	add("a Price of 0", [6]int{3, 0, 0, 4, 3, 0})
	add("a Price of 1001", [6]int{3, 0, 0, 4, 3, 1001})
	add("a Price below 0", [6]int{3, 0, 0, 4, 3, -1})
	add("the zero Cover", [6]int{})
	add("the greatest numbers", [6]int{largest, largest, largest, largest, largest, largest})
	add("the smallest numbers", [6]int{smallest, smallest, smallest, smallest, smallest, smallest})
	add("from the smallest to the greatest", [6]int{3, smallest, smallest, largest, largest, 5})
	lists["an Id of 0"] = append(coversOf([6]int{0, 0, 0, 4, 3, 5}), good...)
	lists["an Id below 0"] = append(coversOf([6]int{-1, 0, 0, 4, 3, 5}), good...)
	lists["descending"] = coversOf([6]int{2, 2, 0, 4, 3, 7}, [6]int{1, 0, 0, 2, 3, 5})
	lists["descending at the end"] = append(slices.Clone(good), coversOf([6]int{9, 0, 0, 1, 1, 1}, [6]int{8, 0, 0, 1, 1, 1})...)
	lists["eleven"] = append(slices.Clone(good), smallCovers(9)...)
	lists["twelve"] = append(slices.Clone(good), smallCovers(10)...)
	lists["very many"] = append(slices.Clone(good), smallCovers(100000)...)
	return lists
}

// smallCovers returns n Covers of one square with the Ids from 3 on.
func smallCovers(n int) []impl.Cover {
	list := []impl.Cover{}
	for i := range n {
		list = append(list, impl.Cover{Id: 3 + i, East: 1, North: 1, Price: 1})
	}
	return list
}

// invalidGalleries returns walls and Covers of which one or the other is not valid.
func invalidGalleries() map[string]gallery {
	galleries := map[string]gallery{}
	for name, list := range invalidCovers() {
		galleries[name] = gallery{4, 3, list}
	}
	covers := coversOf([6]int{1, -20, -20, 2, 20, 5}, [6]int{2, 2, -20, 20, 20, 7})
	for name, n := range map[string]int{"0": 0, "-1": -1, "11": 11, "12": 12, "1 and 2 to the 32nd": 1<<32 + 1, "the greatest": largest, "the smallest": smallest} {
		galleries["wide: "+name] = gallery{n, 3, covers}
		galleries["high: "+name] = gallery{4, n, covers}
		galleries["wide and high: "+name] = gallery{n, n, covers}
		galleries["no Covers, wide: "+name] = gallery{n, 3, nil}
	}
	return galleries
}

// shownByHand goes over all squares of each Cover, and returns the Ids of those that show a square
// of the wall. Bare squares have none.
func shownByHand(g gallery) map[[2]int][]int {
	shown := map[[2]int][]int{}
	for _, c := range g.list {
		for x := c.West; x < c.East; x++ {
			for y := c.South; y < c.North; y++ {
				if x >= 0 && x < g.wide && y >= 0 && y < g.high {
					shown[[2]int{x, y}] = append(shown[[2]int{x, y}], c.Id)
				}
			}
		}
	}
	return shown
}

func areInCommon(a, b []int) bool {
	return slices.ContainsFunc(a, func(n int) bool { return slices.Contains(b, n) })
}

func isMosaicByHand(g gallery, ids []int) bool {
	shown := shownByHand(g)
	for _, by := range shown {
		if !areInCommon(by, ids) {
			return false
		}
	}
	return len(shown) == g.wide*g.high
}

// choicesOf returns all lists of Ids, the empty one as well, in no order of their own.
func choicesOf(list []impl.Cover) [][]int {
	choices := [][]int{{}}
	for _, c := range list {
		for _, ids := range choices[:len(choices):len(choices)] {
			choices = append(choices, append(slices.Clone(ids), c.Id))
		}
	}
	return choices
}

func priceByHand(g gallery, ids []int) int {
	sum := 0
	for _, c := range g.list {
		if slices.Contains(ids, c.Id) {
			sum += c.Price
		}
	}
	return sum
}

func areLonelyByHand(g gallery, squares [][2]int) bool {
	shown := shownByHand(g)
	for i, s := range squares {
		for _, other := range squares[:i] {
			if areInCommon(shown[s], shown[other]) {
				return false
			}
		}
	}
	return true
}

// squareLists returns all lists of squares of a small wall. Of a great one it returns those of
// each pair of columns and rows, and the longest lists of lonely squares that are found by going
// over the wall from each of its corners.
func squareLists(g gallery) [][][2]int {
	wall := [][2]int{}
	for x := range g.wide {
		for y := range g.high {
			wall = append(wall, [2]int{x, y})
		}
	}
	lists := [][][2]int{{}}
	if len(wall) <= 6 {
		for _, s := range wall {
			for _, list := range lists[:len(lists):len(lists)] {
				lists = append(lists, append(slices.Clone(list), s))
			}
		}
		return lists
	}
	for i, s := range wall {
		lists = append(lists, wall[i:i+1])
		if i+g.high+1 < len(wall) {
			lists = append(lists, [][2]int{s, wall[i+1]}, [][2]int{s, wall[i+g.high]}, [][2]int{s, wall[i+g.high+1]}, [][2]int{s, wall[len(wall)-1]})
		}
	}
	turned := slices.Clone(wall)
	slices.Reverse(turned)
	return append(lists, lonelyFrom(g, wall), lonelyFrom(g, turned))
}

// lonelyFrom takes each square of the wall in this order that is lonely beside those it has, up to
// 12, but only one that is bare.
func lonelyFrom(g gallery, wall [][2]int) [][2]int {
	shown, lonely := shownByHand(g), [][2]int{}
	bare := false
	for _, s := range wall {
		isBare := len(shown[s]) == 0
		if len(lonely) < 12 && !(bare && isBare) && areLonelyByHand(g, append(slices.Clone(lonely), s)) {
			lonely = append(lonely, s)
			bare = bare || isBare
		}
	}
	slices.SortFunc(lonely, func(a, b [2]int) int { return slices.Compare(a[:], b[:]) })
	return lonely
}

func checkFewest(t *testing.T, name string, g gallery, want ...int) {
	t.Helper()
	if ids, ok := impl.FewestCovers(g.wide, g.high, g.list); !ok || !slices.Equal(ids, want) {
		t.Errorf("%s: %v: the fewest are %v, %v, not %v", name, g, ids, ok, want)
	}
}

func checkCheapest(t *testing.T, name string, g gallery, price int, want ...int) {
	t.Helper()
	if ids, sum, ok := impl.CheapestCovers(g.wide, g.high, g.list); !ok || sum != price || !slices.Equal(ids, want) {
		t.Errorf("%s: %v: the cheapest are %v for %d, %v, not %v for %d", name, g, ids, sum, ok, want, price)
	}
}

// checkNoneBest expects that there is no mosaic, or that the wall or the Covers are not valid.
func checkNoneBest(t *testing.T, name string, g gallery) {
	t.Helper()
	if ids, ok := impl.FewestCovers(g.wide, g.high, g.list); ok || len(ids) != 0 {
		t.Errorf("%s: %v: the fewest are %v, %v", name, g, ids, ok)
	}
	if ids, sum, ok := impl.CheapestCovers(g.wide, g.high, g.list); ok || sum != 0 || len(ids) != 0 {
		t.Errorf("%s: %v: the cheapest are %v for %d, %v", name, g, ids, sum, ok)
	}
}

func checkMosaic(t *testing.T, name string, g gallery, ids []int, want bool) {
	t.Helper()
	if is, ok := impl.IsMosaic(g.wide, g.high, g.list, ids); !ok || is != want {
		t.Errorf("%s: %v: %v is a mosaic: %v, %v, not %v", name, g, ids, is, ok, want)
	}
}

func checkBare(t *testing.T, name string, g gallery, want int) {
	t.Helper()
	if n, ok := impl.BareSquares(g.wide, g.high, g.list); !ok || n != want {
		t.Errorf("%s: %v: %d are bare, %v, not %d", name, g, n, ok, want)
	}
}

func checkOnly(t *testing.T, name string, g gallery, id, want int) {
	t.Helper()
	if n, ok := impl.OnlyShownBy(g.wide, g.high, g.list, id); !ok || n != want {
		t.Errorf("%s: %v: %d shows %d alone, %v, not %d", name, g, id, n, ok, want)
	}
}

func checkNotOnly(t *testing.T, name string, g gallery, id int) {
	t.Helper()
	if n, ok := impl.OnlyShownBy(g.wide, g.high, g.list, id); ok || n != 0 {
		t.Errorf("%s: %v: %d shows %d alone, %v", name, g, id, n, ok)
	}
}

func checkNeedless(t *testing.T, name string, g gallery, ids []int, want ...int) {
	t.Helper()
	if needless, ok := impl.NeedlessCovers(g.wide, g.high, g.list, ids); !ok || !slices.Equal(needless, want) {
		t.Errorf("%s: %v: needless in %v are %v, %v, not %v", name, g, ids, needless, ok, want)
	}
}

func checkNotNeedless(t *testing.T, name string, g gallery, ids []int) {
	t.Helper()
	if needless, ok := impl.NeedlessCovers(g.wide, g.high, g.list, ids); ok || len(needless) != 0 {
		t.Errorf("%s: %v: needless in %v are %v, %v", name, g, ids, needless, ok)
	}
}

func checkLonely(t *testing.T, name string, g gallery, squares [][2]int, want bool) {
	t.Helper()
	if lonely, ok := impl.AreLonely(g.wide, g.high, g.list, squares); !ok || lonely != want {
		t.Errorf("%s: %v: %v are lonely: %v, %v, not %v", name, g, squares, lonely, ok, want)
	}
}

func checkNotLonely(t *testing.T, name string, g gallery, squares [][2]int) {
	t.Helper()
	if lonely, ok := impl.AreLonely(g.wide, g.high, g.list, squares); ok || lonely {
		t.Errorf("%s: %v: %v are lonely: %v, %v", name, g, squares, lonely, ok)
	}
}

func checkProof(t *testing.T, name string, g gallery, ids []int, squares [][2]int, want bool) {
	t.Helper()
	if proof, ok := impl.ProvesFewest(g.wide, g.high, g.list, ids, squares); !ok || proof != want {
		t.Errorf("%s: %v: %v is a proof for %v: %v, %v, not %v", name, g, squares, ids, proof, ok, want)
	}
}

func checkNoProof(t *testing.T, name string, g gallery, ids []int, squares [][2]int) {
	t.Helper()
	if proof, ok := impl.ProvesFewest(g.wide, g.high, g.list, ids, squares); ok || proof {
		t.Errorf("%s: %v: %v is a proof for %v: %v, %v", name, g, squares, ids, proof, ok)
	}
}

// checkCover checks a Cover by itself.
func checkCover(t *testing.T, c impl.Cover, want bool) {
	t.Helper()
	g := gallery{4, 3, []impl.Cover{c}}
	if impl.AreCovers(g.list) != want {
		t.Errorf("%+v is valid: %v, not %v", c, !want, want)
	}
	if _, ok := impl.BareSquares(g.wide, g.high, g.list); ok != want {
		t.Errorf("%+v on a wall: %v", c, ok)
	}
	if _, ok := impl.OnlyShownBy(g.wide, g.high, g.list, c.Id); ok != want {
		t.Errorf("%+v alone: %v", c, ok)
	}
}

// checkGallery asks all that can be asked without a fault.
func checkGallery(t *testing.T, g gallery) {
	t.Helper()
	shown, alone := shownByHand(g), map[int]int{}
	for _, by := range shown {
		if len(by) == 1 {
			alone[by[0]]++
		}
	}
	checkBare(t, "by hand", g, g.wide*g.high-len(shown))
	for _, c := range g.list {
		checkOnly(t, "by hand", g, c.Id, alone[c.Id])
	}
	mosaics := [][]int{}
	for _, ids := range choicesOf(g.list) {
		is := isMosaicByHand(g, ids)
		checkMosaic(t, "by hand", g, ids, is)
		if is {
			mosaics = append(mosaics, ids)
		} else {
			checkNotNeedless(t, "by hand", g, ids)
		}
	}
	checkBest(t, g, mosaics)
	for _, ids := range mosaics {
		checkNeedless(t, "by hand", g, ids, needlessByHand(g, ids)...)
	}
}

func checkBest(t *testing.T, g gallery, mosaics [][]int) {
	t.Helper()
	if len(mosaics) == 0 {
		checkNoneBest(t, "by hand", g)
		return
	}
	checkFewest(t, "by hand", g, slices.MinFunc(mosaics, func(a, b []int) int {
		return cmp.Or(cmp.Compare(len(a), len(b)), slices.Compare(a, b))
	})...)
	cheapest := slices.MinFunc(mosaics, func(a, b []int) int {
		return cmp.Or(cmp.Compare(priceByHand(g, a), priceByHand(g, b)), cmp.Compare(len(a), len(b)), slices.Compare(a, b))
	})
	checkCheapest(t, "by hand", g, priceByHand(g, cheapest), cheapest...)
}

// needlessByHand leaves out one Cover after the other.
func needlessByHand(g gallery, ids []int) []int {
	needless := []int{}
	for i, id := range ids {
		if isMosaicByHand(g, slices.Delete(slices.Clone(ids), i, i+1)) {
			needless = append(needless, id)
		}
	}
	return needless
}

func TestCoverLimits(t *testing.T) {
	for _, c := range []struct {
		name      string
		low, high int
		set       func(c *impl.Cover, n int)
	}{
		{"Id", 1, 99, func(c *impl.Cover, n int) { c.Id = n }},
		{"Price", 1, 1000, func(c *impl.Cover, n int) { c.Price = n }},
		{"West", -20, 4, func(c *impl.Cover, n int) { c.West = n }},
		{"South", -20, 4, func(c *impl.Cover, n int) { c.South = n }},
		{"East", -4, 20, func(c *impl.Cover, n int) { c.East = n }},
		{"North", -4, 20, func(c *impl.Cover, n int) { c.North = n }},
		{"West of the greatest East", -20, 19, func(c *impl.Cover, n int) { c.West, c.East = n, 20 }},
		{"South of the greatest North", -20, 19, func(c *impl.Cover, n int) { c.South, c.North = n, 20 }},
		{"East of the least West", -19, 20, func(c *impl.Cover, n int) { c.West, c.East = -20, n }},
		{"North of the least South", -19, 20, func(c *impl.Cover, n int) { c.South, c.North = -20, n }},
	} {
		for n := -25; n <= 120; n++ {
			checkCover(t, withNumber(c.set, n), n >= c.low && n <= c.high)
		}
		for _, n := range []int{smallest, -1 << 32, -1000, 999, 1000, 1001, 1 << 32, 1<<32 + 1, 1<<32 - 5, largest} {
			checkCover(t, withNumber(c.set, n), n >= c.low && n <= c.high)
		}
	}
	checkCover(t, impl.Cover{}, false)
	checkCover(t, impl.Cover{Id: 1, East: 1, North: 1, Price: 1}, true)
	if impl.MaxTilesWide != 10 {
		t.Errorf("at most %d tiles wide", impl.MaxTilesWide)
	}
}

func withNumber(set func(c *impl.Cover, n int), n int) impl.Cover {
	c := impl.Cover{Id: 7, West: -5, South: -5, East: 5, North: 5, Price: 50}
	set(&c, n)
	return c
}

// TestCoverSides tries sides that are equal, next to one another and the wrong way round.
func TestCoverSides(t *testing.T) {
	sides := []int{smallest, -21, -20, -19, -1, 0, 1, 2, 3, 4, 19, 20, 21, largest}
	for _, from := range sides {
		for _, to := range sides {
			want := from >= -20 && from < to && to <= 20
			checkCover(t, impl.Cover{Id: 1, West: from, East: to, North: 1, Price: 1}, want)
			checkCover(t, impl.Cover{Id: 1, South: from, North: to, East: 1, Price: 1}, want)
			checkCover(t, impl.Cover{Id: 1, West: from, South: from, East: to, North: to, Price: 1}, want)
		}
	}
}

func TestCoverLists(t *testing.T) {
	for name, list := range invalidCovers() {
		if impl.AreCovers(list) {
			t.Errorf("%s: Covers", name)
		}
	}
	for n := range 14 {
		if impl.AreCovers(smallCovers(n)) != (n <= 10) {
			t.Errorf("%d Covers: %v", n, n > 10)
		}
	}
	for a := range 101 {
		for _, b := range []int{a - 1, a, a + 1, 1, 99, 100} {
			list := coversOf([6]int{a, 0, 0, 1, 1, 1}, [6]int{b, 0, 0, 1, 1, 1})
			if impl.AreCovers(list) != (a >= 1 && a < b && b <= 99) {
				t.Errorf("the Ids %d and %d", a, b)
			}
		}
	}
	for _, g := range manyGalleries() {
		if !impl.AreCovers(g.list) {
			t.Errorf("no Covers: %v", g.list)
		}
	}
	if !impl.AreCovers(nil) || !impl.AreCovers([]impl.Cover{}) {
		t.Error("none are no Covers")
	}
}

// TestWalls tries walls of all sizes with a Cover that shows all of each.
func TestWalls(t *testing.T) {
	for wide := -2; wide <= 13; wide++ {
		for high := -2; high <= 13; high++ {
			g := gallery{wide, high, coversOf([6]int{4, -20, -20, 20, 20, 6}, [6]int{5, 0, 0, 1, 20, 1})}
			if wide < 1 || wide > 10 || high < 1 || high > 10 {
				checkNoGallery(t, "the wall", g, []int{4}, [][2]int{{0, 0}})
				checkNoGallery(t, "the wall", g, nil, nil)
				continue
			}
			square := [][2]int{{wide - 1, high - 1}}
			checkFewest(t, "the wall", g, 4)
			checkMosaic(t, "the wall", g, []int{4}, true)
			checkMosaic(t, "the wall", g, []int{5}, wide == 1)
			checkBare(t, "the wall", g, 0)
			checkBare(t, "the wall", gallery{wide, high, nil}, wide*high)
			checkBare(t, "the wall", gallery{wide, high, g.list[1:]}, (wide-1)*high)
			checkOnly(t, "the wall", g, 4, (wide-1)*high)
			checkOnly(t, "the wall", gallery{wide, high, g.list[:1]}, 4, wide*high)
			checkLonely(t, "the wall", g, square, true)
			checkProof(t, "the wall", g, []int{4}, square, true)
			for _, beyond := range [][2]int{{wide, high - 1}, {wide - 1, high}, {wide, high}, {-1, 0}, {0, -1}} {
				checkNotLonely(t, "beyond the wall", g, [][2]int{beyond})
			}
		}
	}
}

// checkNoGallery expects that all functions fail that take a wall.
func checkNoGallery(t *testing.T, name string, g gallery, ids []int, squares [][2]int) {
	t.Helper()
	checkNoneBest(t, name, g)
	checkNotNeedless(t, name, g, ids)
	checkNotLonely(t, name, g, squares)
	checkNoProof(t, name, g, ids, squares)
	if is, ok := impl.IsMosaic(g.wide, g.high, g.list, ids); ok || is {
		t.Errorf("%s: %v is a mosaic: %v, %v", name, ids, is, ok)
	}
	if n, ok := impl.BareSquares(g.wide, g.high, g.list); ok || n != 0 {
		t.Errorf("%s: %d are bare, %v", name, n, ok)
	}
	for _, id := range append([]int{0, 1, 2, 3, 100}, ids...) {
		checkNotOnly(t, name, g, id)
	}
}

func TestInvalidGalleriesFailEverywhere(t *testing.T) {
	for name, g := range invalidGalleries() {
		for _, ids := range [][]int{nil, {1}, {2}, {1, 2}} {
			for _, squares := range [][][2]int{nil, {{0, 0}}, {{0, 0}, {2, 0}}} {
				checkNoGallery(t, name, g, ids, squares)
			}
		}
	}
	good := gallery{4, 3, invalidCovers()["an Id of 100"][:2]}
	checkFewest(t, "the others", good, 1, 2)
	checkProof(t, "the others", good, []int{1, 2}, [][2]int{{0, 0}, {2, 0}}, true)
}

func TestIdsThatAreNone(t *testing.T) {
	for name, ids := range map[string][]int{
		"twice":                  {2, 2},
		"twice among others":     {2, 3, 3, 8},
		"twice at the end":       {2, 3, 99, 99},
		"descending":             {3, 2},
		"descending at the end":  {2, 8, 5},
		"descending at first":    {3, 2, 8},
		"not there":              {4},
		"not there, first":       {1, 2, 3},
		"not there, between":     {2, 3, 4, 5},
		"not there, last":        {2, 3, 98},
		"0":                      {0},
		"0 and others":           {0, 2, 3},
		"100":                    {2, 3, 100},
		"below 0":                {-2, 2, 3},
		"the smallest":           {smallest, 2, 3},
		"the greatest":           {2, 3, largest},
		"2 to the 32nd more":     {2, 3, 1<<32 + 5},
		"a mosaic, twice":        {2, 3, 2, 3},
		"a mosaic and one more":  {99, 100},
		"very many":              slices.Repeat([]int{2}, 100000),
		"very many that go down": idsFrom(-100000, 100003),
	} {
		g := hall()
		if is, ok := impl.IsMosaic(g.wide, g.high, g.list, ids); ok || is {
			t.Errorf("%s: a mosaic: %v, %v", name, is, ok)
		}
		checkNotNeedless(t, name, g, ids)
		checkNoProof(t, name, g, ids, nil)
		checkNoProof(t, name, g, ids, [][2]int{{0, 0}})
		checkNoProof(t, name, g, ids, [][2]int{{0, 0}, {5, 0}})
	}
	for _, id := range []int{smallest, -2, -1, 0, 1, 4, 98, 100, 1<<32 + 2, largest} {
		checkNotOnly(t, "not there", hall(), id)
		checkNotOnly(t, "no Covers", gallery{6, 4, nil}, id)
	}
	for _, id := range []int{1, 50, 99} {
		checkNotOnly(t, "no Covers", gallery{6, 4, nil}, id)
	}
}

func TestNoIds(t *testing.T) {
	for _, ids := range [][]int{nil, {}} {
		for _, g := range manyGalleries() {
			checkMosaic(t, "none", g, ids, false)
			checkNotNeedless(t, "none", g, ids)
			checkProof(t, "none", g, ids, nil, false)
			checkProof(t, "none", g, ids, [][2]int{}, false)
			checkProof(t, "none", g, ids, [][2]int{{0, 0}}, false)
		}
	}
}

func TestCoversOverTheEdges(t *testing.T) {
	for _, c := range []struct {
		name  string
		sides [4]int // West, South, East and North
		shown int
	}{
		{"all", [4]int{0, 0, 4, 3}, 12},
		{"all and more", [4]int{-1, -1, 5, 4}, 12},
		{"as much as can be", [4]int{-20, -20, 20, 20}, 12},
		{"in the middle", [4]int{1, 1, 2, 2}, 1},
		{"over the west", [4]int{-20, 0, 1, 3}, 3},
		{"over the south", [4]int{0, -20, 4, 1}, 4},
		{"over the east", [4]int{3, 0, 20, 3}, 3},
		{"over the north", [4]int{0, 2, 4, 20}, 4},
		{"over the south-west", [4]int{-5, -5, 2, 1}, 2},
		{"over the north-east", [4]int{2, 1, 9, 9}, 4},
		{"at the west edge", [4]int{-2, 0, 0, 3}, 0},
		{"at the south edge", [4]int{0, -2, 4, 0}, 0},
		{"at the east edge", [4]int{4, 0, 6, 3}, 0},
		{"at the north edge", [4]int{0, 3, 4, 5}, 0},
		{"at a corner", [4]int{4, 3, 20, 20}, 0},
		{"west of it", [4]int{-20, 0, -19, 3}, 0},
		{"north of it", [4]int{0, 19, 4, 20}, 0},
		{"the whole height, beside it", [4]int{-20, -20, 0, 20}, 0},
		{"across", [4]int{-20, 1, 20, 2}, 4},
		{"upright", [4]int{2, -20, 3, 20}, 3},
	} {
		s := c.sides
		g := gallery{4, 3, coversOf([6]int{50, s[0], s[1], s[2], s[3], 9})}
		checkBare(t, c.name, g, 12-c.shown)
		checkOnly(t, c.name, g, 50, c.shown)
		checkMosaic(t, c.name, g, []int{50}, c.shown == 12)
		checkGallery(t, g)
	}
}

func TestMosaicsOfTheHall(t *testing.T) {
	g := hall()
	for _, c := range []struct {
		ids      []int
		is       bool
		needless []int
	}{
		{[]int{2, 3}, true, nil},
		{[]int{5, 8}, true, nil},
		{[]int{2, 8}, true, nil},
		{[]int{99}, true, nil},
		{[]int{3, 5}, false, nil},
		{[]int{2, 5, 30, 40}, false, nil},
		{[]int{2, 3, 5, 8}, true, []int{2, 3, 5, 8}},
		{[]int{2, 3, 5}, true, []int{5}},
		{[]int{2, 3, 99}, true, []int{2, 3, 99}},
		{[]int{2, 3, 30, 40}, true, []int{30, 40}},
		{[]int{5, 8, 99}, true, []int{5, 8, 99}},
		{[]int{2, 3, 5, 8, 30, 40, 99}, true, []int{2, 3, 5, 8, 30, 40, 99}},
	} {
		checkMosaic(t, "the hall", g, c.ids, c.is)
		if c.is {
			checkNeedless(t, "the hall", g, c.ids, c.needless...)
		} else {
			checkNotNeedless(t, "the hall", g, c.ids)
		}
	}
	checkFewest(t, "the hall", g, 99)
	checkCheapest(t, "the hall", g, 70, 2, 3)
	checkBare(t, "the hall", g, 0)
	checkBare(t, "without the first and the last", gallery{6, 4, g.list[1:6]}, 0)
	checkBare(t, "3 and 5", gallery{6, 4, g.list[1:3]}, 4)
	for _, c := range g.list {
		checkOnly(t, "each square is shown twice", g, c.Id, 0)
	}
	checkOnly(t, "the first two", gallery{6, 4, g.list[:2]}, 2, 12)
	checkOnly(t, "the first two", gallery{6, 4, g.list[:2]}, 3, 8)
	checkGallery(t, g)
}

func TestFewestKnown(t *testing.T) {
	halves := [6]int{10, 0, 0, 2, 1, 5}
	for _, c := range []struct {
		name string
		g    gallery
		want []int
	}{
		{"one", gallery{1, 1, coversOf([6]int{99, 0, 0, 1, 1, 1})}, []int{99}},
		{"one of two", gallery{1, 1, coversOf([6]int{1, 1, 0, 2, 1, 1}, [6]int{2, 0, 0, 1, 1, 1})}, []int{2}},
		{"the smaller one of two", gallery{1, 1, coversOf([6]int{1, 0, 0, 1, 1, 9}, [6]int{2, 0, 0, 1, 1, 1})}, []int{1}},
		{"one at the end, not two before it", gallery{4, 1, coversOf(halves, [6]int{20, 2, 0, 4, 1, 5}, [6]int{30, 0, 0, 4, 1, 900})}, []int{30}},
		{"the first with the last, not two between", gallery{4, 1, coversOf(halves, [6]int{11, 0, 0, 3, 1, 1}, [6]int{12, 3, 0, 4, 1, 1}, [6]int{20, 2, 0, 4, 1, 5})}, []int{10, 20}},
		{"the smaller second one", gallery{4, 1, coversOf(halves, [6]int{11, 2, 0, 4, 1, 500}, [6]int{20, 2, 0, 4, 1, 5})}, []int{10, 11}},
		{"the smaller first one", gallery{4, 1, coversOf(halves, [6]int{11, 0, 0, 2, 1, 1}, [6]int{20, 2, 0, 4, 1, 5})}, []int{10, 20}},
		{"one that the smallest one is not in", gallery{3, 1, coversOf([6]int{1, 1, 0, 2, 1, 1}, [6]int{2, 0, 0, 2, 1, 1}, [6]int{3, 2, 0, 3, 1, 1})}, []int{2, 3}},
		{"ten stripes", gallery{10, 10, stripes(10, 10)}, []int{9, 18, 27, 36, 45, 54, 63, 72, 81, 90}},
		{"ten stripes, five of which are seen", gallery{5, 3, stripes(10, 10)}, []int{9, 18, 27, 36, 45}},
		{"not the greatest one first", gallery{6, 2, coversOf(
			[6]int{1, 1, 0, 5, 2, 1}, [6]int{2, 0, 0, 6, 1, 1}, [6]int{3, 0, 1, 6, 2, 1}, [6]int{4, 0, 0, 1, 2, 1}, [6]int{5, 5, 0, 6, 2, 1})}, []int{2, 3}},
	} {
		checkFewest(t, c.name, c.g, c.want...)
		checkGallery(t, c.g)
	}
}

func TestCheapestKnown(t *testing.T) {
	for _, c := range []struct {
		name  string
		list  []impl.Cover
		price int
		want  []int
	}{
		{"one", coversOf([6]int{7, 0, 0, 4, 1, 1000}), 1000, []int{7}},
		{"more than the fewest", coversOf([6]int{1, 0, 0, 4, 1, 6}, [6]int{2, 0, 0, 2, 1, 2}, [6]int{3, 2, 0, 4, 1, 3}), 5, []int{2, 3}},
		{"the same sum", coversOf([6]int{1, 0, 0, 2, 1, 2}, [6]int{2, 2, 0, 4, 1, 3}, [6]int{3, 0, 0, 4, 1, 5}), 5, []int{3}},
		{"the same sum, fewer at first", coversOf([6]int{1, 0, 0, 4, 1, 5}, [6]int{2, 0, 0, 2, 1, 2}, [6]int{3, 2, 0, 4, 1, 3}), 5, []int{1}},
		{"the same sum and as many", coversOf([6]int{1, 0, 0, 2, 1, 2}, [6]int{2, 2, 0, 4, 1, 3}, [6]int{3, 2, 0, 4, 1, 3}), 5, []int{1, 2}},
		{"the same sum and as many, the first one differs", coversOf([6]int{1, 0, 0, 2, 1, 3}, [6]int{2, 0, 0, 2, 1, 3}, [6]int{3, 2, 0, 4, 1, 3}), 6, []int{1, 3}},
		{"the last one is cheaper", coversOf([6]int{1, 0, 0, 2, 1, 2}, [6]int{2, 2, 0, 4, 1, 4}, [6]int{3, 2, 0, 4, 1, 3}), 5, []int{1, 3}},
		{"three, not two", coversOf([6]int{1, 0, 0, 2, 1, 500}, [6]int{2, 2, 0, 4, 1, 1}, [6]int{3, 0, 0, 1, 1, 249}, [6]int{4, 1, 0, 2, 1, 250}), 500, []int{2, 3, 4}},
		{"two, not three", coversOf([6]int{1, 0, 0, 2, 1, 500}, [6]int{2, 2, 0, 4, 1, 1}, [6]int{3, 0, 0, 1, 1, 250}, [6]int{4, 1, 0, 2, 1, 250}), 501, []int{1, 2}},
	} {
		g := gallery{4, 1, c.list}
		checkCheapest(t, c.name, g, c.price, c.want...)
		checkGallery(t, g)
	}
	dear := stripes(10, 10)
	for i := range dear {
		dear[i].Price = 1000
	}
	checkCheapest(t, "the greatest sum", gallery{10, 10, dear}, 10000, 9, 18, 27, 36, 45, 54, 63, 72, 81, 90)
	checkCheapest(t, "the sum of the stripes", gallery{10, 1, stripes(10, 10)}, 55, 9, 18, 27, 36, 45, 54, 63, 72, 81, 90)
}

func TestNoMosaic(t *testing.T) {
	for name, g := range map[string]gallery{
		"no Covers":              {1, 1, nil},
		"no Covers, many tiles":  {10, 10, []impl.Cover{}},
		"beside the wall":        {1, 1, coversOf([6]int{1, 1, 0, 20, 20, 1}, [6]int{2, -20, -20, 20, 0, 1})},
		"the last column":        {10, 10, stripes(9, 10)},
		"the first column":       {10, 10, stripes(10, 10)[1:]},
		"the last row":           {10, 10, stripes(10, 9)},
		"one square in the east": {4, 2, coversOf([6]int{1, 0, 0, 4, 1, 1}, [6]int{2, 0, 0, 3, 2, 1})},
		"one square in between":  {3, 1, coversOf([6]int{1, 0, 0, 1, 1, 1}, [6]int{2, 2, 0, 3, 1, 1})},
	} {
		checkNoneBest(t, name, g)
		for _, ids := range choicesOf(g.list) {
			checkMosaic(t, name, g, ids, false)
			checkNotNeedless(t, name, g, ids)
			checkProof(t, name, g, ids, nil, false)
		}
	}
}

func TestNeedlessKnown(t *testing.T) {
	g := gallery{3, 1, coversOf([6]int{1, 0, 0, 2, 1, 1}, [6]int{2, 1, 0, 3, 1, 1}, [6]int{3, 0, 0, 1, 1, 1}, [6]int{4, 2, 0, 3, 1, 1}, [6]int{5, 5, 5, 6, 6, 1}, [6]int{6, 0, 0, 3, 1, 1})}
	for _, c := range []struct {
		name string
		ids  []int
		want []int
	}{
		{"none", []int{1, 2}, nil},
		{"one alone", []int{6}, nil},
		{"one", []int{1, 3, 4}, []int{3}},
		{"each of two of three, but not both", []int{1, 2, 3}, []int{1, 3}},
		{"each of four, and two of them", []int{1, 2, 3, 4}, []int{1, 2, 3, 4}},
		{"one beyond the wall", []int{1, 4, 5}, []int{5}},
		{"all of two that are mosaics", []int{1, 2, 6}, []int{1, 2, 6}},
		{"not one that shows all alone", []int{1, 3, 5, 6}, []int{1, 3, 5}},
		{"one that is a mosaic by itself", []int{1, 4, 6}, []int{1, 4, 6}},
	} {
		checkNeedless(t, c.name, g, c.ids, c.want...)
	}
	for _, ids := range [][]int{nil, {}, {1}, {1, 3}, {2, 4, 5}, {3, 4, 5}} {
		checkNotNeedless(t, "no mosaic", g, ids)
	}
	checkGallery(t, g)
	same := gallery{2, 2, coversOf([6]int{1, 0, 0, 2, 2, 1}, [6]int{99, 0, 0, 2, 2, 1})}
	checkNeedless(t, "each of two", same, []int{1, 99}, 1, 99)
	checkNeedless(t, "the first", same, []int{1})
	checkNeedless(t, "the last", same, []int{99})
	checkOnly(t, "each of two", same, 1, 0)
	checkOnly(t, "each of two", same, 99, 0)
}

func TestLonelyKnown(t *testing.T) {
	g := gallery{6, 4, coversOf([6]int{1, 0, 0, 2, 4, 1}, [6]int{2, 1, 0, 4, 2, 1}, [6]int{3, 4, 2, 20, 20, 1}, [6]int{4, -20, -20, 0, 20, 1}, [6]int{5, 6, 0, 9, 4, 1})}
	for _, c := range []struct {
		name    string
		squares [][2]int
		want    bool
	}{
		{"none", nil, true},
		{"none at all", [][2]int{}, true},
		{"one", [][2]int{{0, 0}}, true},
		{"one that two Covers show", [][2]int{{1, 1}}, true},
		{"one that is bare", [][2]int{{2, 3}}, true},
		{"the last one", [][2]int{{5, 3}}, true},
		{"two of one Cover", [][2]int{{0, 0}, {0, 1}}, false},
		{"two of one Cover, far apart", [][2]int{{4, 2}, {5, 3}}, false},
		{"two of two Covers", [][2]int{{0, 0}, {2, 0}}, true},
		{"two of two Covers, one of which shows both", [][2]int{{0, 0}, {1, 0}}, false},
		{"two of two Covers, the other one of which shows both", [][2]int{{1, 0}, {2, 0}}, false},
		{"three of three Covers", [][2]int{{0, 0}, {2, 0}, {4, 2}}, true},
		{"the first two of three", [][2]int{{0, 0}, {1, 0}, {4, 2}}, false},
		{"the last two of three", [][2]int{{0, 0}, {4, 2}, {5, 2}}, false},
		{"the first and the last of three", [][2]int{{0, 0}, {2, 0}, {3, 0}}, false},
		{"the first and the last of four", [][2]int{{1, 2}, {2, 2}, {3, 0}, {3, 1}}, false},
		{"two that are bare", [][2]int{{2, 2}, {2, 3}}, true},
		{"bare ones and others", [][2]int{{0, 3}, {2, 2}, {2, 3}, {3, 1}, {3, 2}, {5, 2}}, true},
		{"the corners", [][2]int{{0, 0}, {0, 3}, {5, 0}, {5, 3}}, false},
		{"two of them", [][2]int{{0, 0}, {5, 3}}, true},
	} {
		checkLonely(t, c.name, g, c.squares, c.want)
	}
}

func TestSquaresThatAreNone(t *testing.T) {
	// The squares of the middle rows are bare.
	g := gallery{6, 4, coversOf([6]int{1, 0, 0, 6, 1, 1}, [6]int{2, 0, 3, 6, 4, 1})}
	for name, squares := range map[string][][2]int{
		"west of the wall":                  {{-1, 1}},
		"south of the wall":                 {{0, -1}},
		"east of the wall":                  {{6, 1}},
		"north of the wall":                 {{5, 4}},
		"beyond a corner":                   {{6, 4}},
		"the last one beyond the wall":      {{0, 1}, {1, 1}, {6, 1}},
		"the first one beyond the wall":     {{-1, 1}, {1, 1}, {5, 1}},
		"one between beyond the wall":       {{0, 1}, {0, 4}, {1, 1}},
		"X descends":                        {{1, 1}, {0, 1}},
		"X descends, Y ascends":             {{1, 1}, {0, 2}},
		"Y descends":                        {{1, 2}, {1, 1}},
		"X descends at the end":             {{0, 1}, {2, 1}, {1, 2}},
		"Y descends between":                {{0, 1}, {1, 2}, {1, 1}, {2, 2}},
		"twice":                             {{0, 1}, {0, 1}},
		"twice at the end":                  {{0, 1}, {1, 1}, {1, 1}},
		"shown, twice":                      {{0, 0}, {0, 0}},
		"2 to the 32nd more":                {{0, 1}, {1<<32 + 1, 1}},
		"2 to the 32nd more to the north":   {{0, 1}, {1, 1<<32 + 1}},
		"the smallest":                      {{smallest, smallest}, {0, 1}},
		"the greatest":                      {{0, 1}, {largest, largest}},
		"thirteen times the same":           slices.Repeat([][2]int{{0, 1}}, 13),
		"very many":                         slices.Repeat([][2]int{{0, 1}}, 100000),
		"not lonely, then beyond the wall":  {{0, 0}, {1, 0}, {7, 0}},
		"not lonely, in the wrong order":    {{1, 0}, {0, 0}},
		"exchanged, and so beyond the wall": {{1, 4}},
	} {
		checkNotLonely(t, name, g, squares)
		for _, ids := range [][]int{nil, {1}, {1, 2}} {
			checkNoProof(t, name, g, ids, squares)
		}
		checkNoProof(t, name, gallery{6, 4, coversOf([6]int{1, 0, 0, 6, 4, 1})}, []int{1}, squares)
	}
}

// TestTwelveLonelySquares has bare squares among them: ten Covers have at most ten others.
func TestTwelveLonelySquares(t *testing.T) {
	for _, g := range []gallery{{10, 10, nil}, {10, 10, stripes(10, 1)}, {10, 10, stripes(5, 4)}} {
		squares := [][2]int{}
		for x := range 10 {
			squares = append(squares, [2]int{x, 0})
			if x >= 7 {
				squares = append(squares, [2]int{x, 9})
			}
		}
		for n := range len(squares) + 1 {
			if n > 12 {
				checkNotLonely(t, "many", g, squares[:n])
				checkNoProof(t, "many", g, nil, squares[:n])
				continue
			}
			checkLonely(t, "many", g, squares[:n], true)
			checkProof(t, "many", g, nil, squares[:n], false)
			last := squares[max(n, 1)-1]
			shown := impl.Cover{Id: 95, West: last[0], South: last[1], East: 10, North: 10, Price: 1}
			if len(g.list) < 10 && n > 0 {
				checkLonely(t, "with one more Cover", gallery{10, 10, append(slices.Clone(g.list), shown)}, squares[:n], true)
			}
		}
		if len(g.list) < 10 {
			all := impl.Cover{Id: 96, West: -1, South: -1, East: 20, North: 20, Price: 1}
			checkLonely(t, "all shown", gallery{10, 10, append(slices.Clone(g.list), all)}, squares[:12], false)
		}
	}
}

func TestProofsKnown(t *testing.T) {
	g := gallery{4, 2, coversOf([6]int{10, 0, 0, 2, 2, 3}, [6]int{20, 2, 0, 4, 2, 3}, [6]int{30, 1, 0, 3, 2, 1}, [6]int{40, 3, 0, 4, 1, 1})}
	for _, c := range []struct {
		name    string
		ids     []int
		squares [][2]int
		want    bool
	}{
		{"just as many", []int{10, 20}, [][2]int{{0, 0}, {3, 0}}, true},
		{"other ones", []int{10, 20}, [][2]int{{0, 1}, {2, 0}}, true},
		{"one fewer", []int{10, 20}, [][2]int{{0, 0}}, false},
		{"none", []int{10, 20}, nil, false},
		{"not lonely", []int{10, 20}, [][2]int{{2, 0}, {3, 0}}, false},
		{"one more, not lonely", []int{10, 20}, [][2]int{{0, 0}, {2, 0}, {3, 0}}, false},
		{"one more Cover", []int{10, 20, 30}, [][2]int{{0, 0}, {3, 0}}, false},
		{"one more of both, not lonely", []int{10, 20, 30}, [][2]int{{0, 0}, {1, 0}, {3, 0}}, false},
		{"no mosaic, just as many", []int{10, 30}, [][2]int{{0, 0}, {3, 0}}, false},
		{"no mosaic, one", []int{10}, [][2]int{{0, 0}}, false},
		{"no Ids, none", nil, nil, false},
		{"no Ids, two", nil, [][2]int{{0, 0}, {3, 0}}, false},
	} {
		checkProof(t, c.name, g, c.ids, c.squares, c.want)
	}
	bare := gallery{4, 2, g.list[:1]}
	checkProof(t, "no mosaic, one more that is bare", bare, []int{10}, [][2]int{{0, 0}, {3, 0}}, false)
	checkProof(t, "no mosaic, one that is bare", bare, []int{10}, [][2]int{{3, 0}}, false)
	columns, squares := gallery{10, 2, stripes(10, 2)}, [][2]int{}
	for x := range 10 {
		squares = append(squares, [2]int{x, x % 2})
	}
	ids := []int{9, 18, 27, 36, 45, 54, 63, 72, 81, 90}
	checkProof(t, "ten", columns, ids, squares, true)
	checkProof(t, "nine squares", columns, ids, squares[:9], false)
	checkProof(t, "nine Covers", columns, ids[:9], squares[:9], false)
	checkProof(t, "nine Covers for ten squares", columns, ids[:9], squares, false)
	checkProof(t, "nine Covers for nine columns", gallery{9, 2, columns.list}, ids[:9], squares[:9], true)
	checkProof(t, "a needless one", gallery{9, 2, columns.list}, ids, squares[:9], false)
}

func TestManyGalleries(t *testing.T) {
	for _, g := range manyGalleries() {
		checkGallery(t, g)
	}
}

// smallGalleries sees all lists with so many of these Covers, of each Id from 1 on, on a wall.
func smallGalleries(wide, high, size int, covers []impl.Cover, see func(g gallery)) {
	var goOn func(list []impl.Cover)
	goOn = func(list []impl.Cover) {
		if len(list) == size {
			see(gallery{wide, high, list})
			return
		}
		for _, c := range covers {
			c.Id = len(list) + 1
			goOn(append(list, c))
		}
	}
	goOn(make([]impl.Cover, 0, size))
}

// spans returns all Covers with sides in low..high and a Price of 1 up to this one.
func spans(low, high int, flat bool, prices int) []impl.Cover {
	list := []impl.Cover{}
	for west := low; west < high; west++ {
		for east := west + 1; east <= high; east++ {
			for south := low; south < high; south++ {
				for north := south + 1; north <= high; north++ {
					for price := 1; price <= prices; price++ {
						if !flat || south == 0 && north == 1 {
							list = append(list, impl.Cover{West: west, South: south, East: east, North: north, Price: price})
						}
					}
				}
			}
		}
	}
	return list
}

func TestAllSmallGalleries(t *testing.T) {
	seen := 0
	see := func(g gallery) {
		seen++
		checkGallery(t, g)
		for _, squares := range squareLists(g) {
			checkLonely(t, "small", g, squares, areLonelyByHand(g, squares))
		}
	}
	smallGalleries(3, 1, 1, spans(-1, 4, false, 1), see)
	smallGalleries(3, 1, 2, spans(-1, 4, true, 2), see)
	smallGalleries(3, 1, 3, spans(0, 3, true, 2), see)
	smallGalleries(2, 2, 2, spans(-1, 2, false, 1), see)
	smallGalleries(2, 2, 3, spans(0, 2, false, 1), see)
	if seen < 4800 {
		t.Errorf("only %d galleries", seen)
	}
}

// TestNoMosaicHasFewerCoversThanLonelySquares checks promise 12, for all mosaics with lonely
// squares, and for the one that is told to have the fewest Covers.
func TestNoMosaicHasFewerCoversThanLonelySquares(t *testing.T) {
	proofs, more := 0, 0
	for _, g := range manyGalleries() {
		fewest, found := impl.FewestCovers(g.wide, g.high, g.list)
		choices := choicesOf(g.list)
		for _, squares := range squareLists(g) {
			lonely, ok := impl.AreLonely(g.wide, g.high, g.list, squares)
			if want := areLonelyByHand(g, squares); !ok || lonely != want {
				t.Fatalf("%v: %v are lonely: %v, %v, not %v", g, squares, lonely, ok, want)
			}
			if !lonely || !found {
				continue
			}
			if len(fewest) < len(squares) {
				t.Errorf("%v: only %v for %v", g, fewest, squares)
			}
			checkProof(t, "the fewest", g, fewest, squares, len(fewest) == len(squares))
			if len(fewest) == len(squares) {
				proofs++
			} else {
				more++
			}
			if len(squares) > 1 {
				checkEachChoice(t, g, choices, squares)
			}
		}
	}
	if proofs < 100 || more < 100 {
		t.Errorf("%d proofs, %d others", proofs, more)
	}
}

// checkEachChoice asks for fewer Covers than lonely squares, and for just as many.
func checkEachChoice(t *testing.T, g gallery, choices [][]int, squares [][2]int) {
	t.Helper()
	for _, ids := range choices {
		if len(ids) > len(squares) {
			continue
		}
		is, ok := impl.IsMosaic(g.wide, g.high, g.list, ids)
		if !ok || is && len(ids) < len(squares) {
			t.Errorf("%v: %v for %v: %v, %v", g, ids, squares, is, ok)
		}
		checkProof(t, "a choice", g, ids, squares, is && len(ids) == len(squares))
	}
}

// callMosaicFunctions calls each function of the chapter.
func callMosaicFunctions(g gallery, ids []int, squares [][2]int) {
	impl.AreCovers(g.list)
	impl.IsMosaic(g.wide, g.high, g.list, ids)
	impl.BareSquares(g.wide, g.high, g.list)
	impl.FewestCovers(g.wide, g.high, g.list)
	impl.CheapestCovers(g.wide, g.high, g.list)
	impl.AreLonely(g.wide, g.high, g.list, squares)
	impl.ProvesFewest(g.wide, g.high, g.list, ids, squares)
	impl.NeedlessCovers(g.wide, g.high, g.list, ids)
	for _, id := range append([]int{smallest, 0, 1, 2, 99, 100, largest}, ids...) {
		impl.OnlyShownBy(g.wide, g.high, g.list, id)
	}
}

// TestMosaicFunctionsLeaveTheListsAlone looks behind the ends of the lists as well.
func TestMosaicFunctionsLeaveTheListsAlone(t *testing.T) {
	galleries := manyGalleries()
	for name, g := range invalidGalleries() {
		if name != "very many" {
			galleries = append(galleries, g)
		}
	}
	behind := coversOf([6]int{-7, -7, -7, -7, -7, -7}, [6]int{99, -20, -20, 20, 20, 1})
	for _, g := range galleries {
		for _, ids := range [][]int{nil, {1, 2}, {2, 1}, {99}, {5, 5}, idsOfCovers(g.list)} {
			for _, squares := range [][][2]int{nil, {{0, 0}}, {{0, 0}, {4, 3}}, {{1, 1}, {0, 0}}, {{0, 0}, {0, 0}, {50, 50}}} {
				list, moreIds, moreSquares := slices.Concat(g.list, behind), slices.Concat(ids, []int{-7, 99}), slices.Concat(squares, [][2]int{{-7, -7}, {9, 9}})
				callMosaicFunctions(gallery{g.wide, g.high, list[:len(g.list)]}, moreIds[:len(ids)], moreSquares[:len(squares)])
				if !slices.Equal(list, slices.Concat(g.list, behind)) || !slices.Equal(moreIds, slices.Concat(ids, []int{-7, 99})) ||
					!slices.Equal(moreSquares, slices.Concat(squares, [][2]int{{-7, -7}, {9, 9}})) {
					t.Fatalf("%v, %v, %v: %v, %v, %v", g, ids, squares, list, moreIds, moreSquares)
				}
			}
		}
	}
}

func idsOfCovers(list []impl.Cover) []int {
	ids := []int{}
	for _, c := range list {
		ids = append(ids, c.Id)
	}
	return ids
}

// TestWhatIsBehindTheListsOfAMosaicIsNotThere cuts off what would count.
func TestWhatIsBehindTheListsOfAMosaicIsNotThere(t *testing.T) {
	list := coversOf([6]int{1, 0, 0, 1, 1, 5}, [6]int{2, 1, 0, 2, 1, 5}, [6]int{0, 0, 0, 9, 9, 1}, [6]int{3, 0, 0, 2, 1, 1})
	g := gallery{2, 1, list[:2]}
	checkFewest(t, "cut off", g, 1, 2)
	checkCheapest(t, "cut off", g, 10, 1, 2)
	checkBare(t, "cut off", gallery{2, 1, list[:1]}, 1)
	checkNoneBest(t, "cut off", gallery{2, 1, list[:1]})
	checkOnly(t, "cut off", g, 1, 1)
	checkNotOnly(t, "cut off", g, 3)
	ids, squares := []int{1, 2, 3, 2}, [][2]int{{0, 0}, {1, 0}, {1, 0}, {5, 5}}
	checkMosaic(t, "cut off", g, ids[:1], false)
	checkMosaic(t, "cut off", g, ids[:2], true)
	checkNeedless(t, "cut off", g, ids[:2])
	checkLonely(t, "cut off", g, squares[:2], true)
	checkProof(t, "cut off", g, ids[:2], squares[:2], true)
	checkProof(t, "cut off", g, ids[:2], squares[:1], false)
	if !impl.AreCovers(list[:2]) || !impl.AreCovers(list[:0]) || impl.AreCovers(list[:3]) {
		t.Error("Covers behind the list count")
	}
}

// TestMosaicResultsOwnTheirMemory spoils each result and asks again.
func TestMosaicResultsOwnTheirMemory(t *testing.T) {
	g, ids := hall(), make([]int, 0, 50)
	ids = append(ids, 2, 3, 30, 40)
	for range 2 {
		fewest, one := impl.FewestCovers(g.wide, g.high, g.list)
		again, two := impl.FewestCovers(g.wide, g.high, g.list)
		cheapest, price, three := impl.CheapestCovers(g.wide, g.high, g.list)
		needless, four := impl.NeedlessCovers(g.wide, g.high, g.list, ids)
		if !one || !two || !three || !four || price != 70 || !slices.Equal(fewest, []int{99}) || !slices.Equal(again, []int{99}) ||
			!slices.Equal(cheapest, []int{2, 3}) || !slices.Equal(needless, []int{30, 40}) {
			t.Fatalf("%v, %v, %v, %v", fewest, again, cheapest, needless)
		}
		for _, result := range [][]int{fewest, cheapest, needless} {
			clear(result[:cap(result)])
		}
		if !slices.Equal(again, []int{99}) || !slices.Equal(ids, []int{2, 3, 30, 40}) || !slices.Equal(g.list, hall().list) {
			t.Fatalf("shared memory: %v, %v, %v", again, ids, g.list)
		}
	}
}
