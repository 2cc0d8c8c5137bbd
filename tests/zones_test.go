package tests

import (
	"slices"
	"testing"

	"loop.example/g01060/impl"
)

// zonesOf numbers the Zones with these sides, each West, South, East and North, from 1.
func zonesOf(sides ...[4]int) []impl.Zone {
	list := []impl.Zone{}
	for i, s := range sides {
		list = append(list, impl.Zone{Id: i + 1, West: s[0], South: s[1], East: s[2], North: s[3]})
	}
	return list
}

// sameZones returns n Zones that are the same but for their Ids, from 1 on.
func sameZones(n int, sides [4]int) []impl.Zone { return zonesOf(slices.Repeat([][4]int{sides}, n)...) }

// mapSide is the greatest side in manyZones, and one less than the number of farSides.
const mapSide = 8

// farSides has a place of the whole map for each side in 0..mapSide. They ascend.
var farSides = [mapSide + 1]int{0, 1, 2, 700, 5000, 5001, 9000, 9998, 9999}

func farZone(z impl.Zone) impl.Zone {
	return impl.Zone{Id: z.Id, West: farSides[z.West], South: farSides[z.South], East: farSides[z.East], North: farSides[z.North]}
}

// farZones pulls Zones of manyZones apart. What touches, overlaps or is in another goes on to.
func farZones(list []impl.Zone) []impl.Zone {
	far := []impl.Zone{}
	for _, z := range list {
		far = append(far, farZone(z))
	}
	return far
}

// manyZones returns lists of Zones with small sides, so that they often overlap and touch.
func manyZones() [][]impl.Zone {
	lists := [][]impl.Zone{nil, {}, sameZones(10, [4]int{0, 0, mapSide, mapSide}), sameZones(10, [4]int{3, 4, 4, 5})}
	n := 1
	next := func(low, high int) int {
		n = (n*1103 + 12345) % 1000003
		return low + n/7%(high-low+1)
	}
	for len(lists) < 300 {
		list := []impl.Zone{}
		longest := next(1, mapSide)
		for id := next(1, 9); len(list) < len(lists)%11; id += next(1, 10) {
			z := impl.Zone{Id: id, West: next(0, mapSide-1), South: next(0, mapSide-1)}
			z.East = min(mapSide, z.West+next(1, longest))
			z.North = min(mapSide, z.South+next(1, longest))
			list = append(list, z)
		}
		lists = append(lists, list)
	}
	return lists
}

// invalidZones returns lists that are no Zones. The Ids 1 and 2 are in each of them.
func invalidZones() map[string][]impl.Zone {
	lists := map[string][]impl.Zone{}
	add := func(name string, spoil func(z *impl.Zone)) {
		list := zonesOf([4]int{0, 0, 10, 10}, [4]int{5, 5, 20, 20}, [4]int{20, 0, 30, 10})
		spoil(&list[2])
		lists[name] = list
	}
	add("an Id again", func(z *impl.Zone) { z.Id = 2 })
	add("the first Id again", func(z *impl.Zone) { z.Id = 1 })
	add("an Id of 100", func(z *impl.Zone) { z.Id = 100 })
	add("no width", func(z *impl.Zone) { z.East = 20 })
	add("no height", func(z *impl.Zone) { z.North = 0 })
	add("West behind East", func(z *impl.Zone) { z.West, z.East = z.East, z.West })
	add("South above North", func(z *impl.Zone) { z.South, z.North = z.North, z.South })
	add("West of the map", func(z *impl.Zone) { z.West = -1 })
	add("south of the map", func(z *impl.Zone) { z.South = -1 })
	add("east of the map", func(z *impl.Zone) { z.East = 10000 })
	add("north of the map", func(z *impl.Zone) { z.North = 10000 })
	add("the zero Zone", func(z *impl.Zone) { *z = impl.Zone{} })
	add("the greatest numbers", func(z *impl.Zone) { z.West, z.East, z.North = smallest, largest, largest })
	good := zonesOf([4]int{0, 0, 10, 10}, [4]int{5, 5, 20, 20})
	lists["descending"] = []impl.Zone{good[1], good[0]}
	lists["an Id of 0 before"] = append([]impl.Zone{{East: 10, North: 10}}, good...)
	lists["eleven"] = append(sameZones(10, [4]int{0, 0, 10, 10}), impl.Zone{Id: 11, East: 10, North: 10})
	lists["very many"] = slices.Repeat(good, 100000)
	return lists
}

// has reports whether the unit square x, y is in a Zone.
func has(z impl.Zone, x, y int) bool { return x >= z.West && x < z.East && y >= z.South && y < z.North }

// zonesWith returns the Ids of all Zones with the unit square x, y.
func zonesWith(list []impl.Zone, x, y int) []int {
	ids := []int{}
	for _, z := range list {
		if has(z, x, y) {
			ids = append(ids, z.Id)
		}
	}
	return ids
}

// areaInAll returns the area of what is in each one of the Zones.
func areaInAll(list []impl.Zone) int {
	west, south, east, north := 0, 0, 9999, 9999
	for _, z := range list {
		west, south, east, north = max(west, z.West), max(south, z.South), min(east, z.East), min(north, z.North)
	}
	return max(0, east-west) * max(0, north-south)
}

// areaInAny adds what is in one Zone, takes away what is in two, adds what is in three, and so on.
func areaInAny(list []impl.Zone) int {
	area := 0
	for set := 1; set < 1<<len(list); set++ {
		chosen, sign := []impl.Zone{}, -1
		for i, z := range list {
			if set>>i&1 == 1 {
				chosen, sign = append(chosen, z), -sign
			}
		}
		area += sign * areaInAll(chosen)
	}
	return area
}

func without(list []impl.Zone, at int) []impl.Zone {
	return slices.Delete(slices.Clone(list), at, at+1)
}

func TestZoneLimits(t *testing.T) {
	for _, c := range []struct {
		name      string
		low, high int
		set       func(z *impl.Zone, n int)
	}{
		{"Id", 1, 99, func(z *impl.Zone, n int) { z.Id = n }},
		{"West", 0, 499, func(z *impl.Zone, n int) { z.West = n }},
		{"South", 0, 599, func(z *impl.Zone, n int) { z.South = n }},
		{"East", 101, 9999, func(z *impl.Zone, n int) { z.East = n }},
		{"North", 201, 9999, func(z *impl.Zone, n int) { z.North = n }},
	} {
		for _, n := range []int{smallest, -1, 0, 1, c.low - 1, c.low, c.low + 1, c.high - 1, c.high, c.high + 1, 9998, 9999, 10000, 1 << 32, 1<<32 + 50, largest} {
			z := impl.Zone{Id: 12, West: 100, South: 200, East: 500, North: 600}
			c.set(&z, n)
			want := n >= c.low && n <= c.high
			if impl.IsZone(z) != want || impl.AreZones([]impl.Zone{z}) != want {
				t.Errorf("%s of %d: %v", c.name, n, !want)
			}
			checkCutFails(t, z, impl.Zone{Id: 1, East: 10, North: 10}, !want)
		}
	}
	for _, sides := range [][4]int{{0, 0, 9999, 9999}, {9998, 9998, 9999, 9999}, {0, 0, 1, 1}, {0, 9998, 9999, 9999}, {9998, 0, 9999, 1}} {
		if !impl.IsZone(zonesOf(sides)[0]) {
			t.Errorf("no Zone: %v", sides)
		}
	}
	for _, sides := range [][4]int{{0, 0, 0, 0}, {0, 0, 0, 1}, {0, 0, 1, 0}, {9999, 9998, 9999, 9999}, {9998, 9999, 9999, 9999}, {9999, 9999, 9999, 9999},
		{5, 5, 4, 6}, {5, 5, 6, 4}, {5, 5, 4, 4}, {-1, -1, 0, 0}, {9999, 9999, 10000, 10000}} {
		if impl.IsZone(zonesOf(sides)[0]) {
			t.Errorf("a Zone: %v", sides)
		}
	}
	if impl.IsZone(impl.Zone{}) {
		t.Error("the zero Zone is valid")
	}
}

// checkCutFails checks that CutZone fails, or does not, whichever of the Zones is cut.
func checkCutFails(t *testing.T, a, b impl.Zone, want bool) {
	t.Helper()
	for _, pair := range [][2]impl.Zone{{a, b}, {b, a}} {
		if parts, ok := impl.CutZone(pair[0], pair[1]); ok == want || want && len(parts) != 0 {
			t.Errorf("%v without %v: %v, %v", pair[0], pair[1], parts, ok)
		}
	}
}

func TestAreZones(t *testing.T) {
	for _, n := range []int{0, 1, 2, 9, 10, 11, 12, 99, 1000} {
		if impl.AreZones(sameZones(n, [4]int{0, 0, 9999, 9999})) != (n <= 10) {
			t.Errorf("%d Zones: %v", n, n > 10)
		}
	}
	if !impl.AreZones(nil) || impl.MaxZones != 10 {
		t.Errorf("no Zones, or at most %d", impl.MaxZones)
	}
	for i, list := range manyZones() {
		if !impl.AreZones(list) || !impl.AreZones(farZones(list)) {
			t.Errorf("the list %d is rejected: %v", i, list)
		}
	}
	for name, list := range invalidZones() {
		if impl.AreZones(list) {
			t.Errorf("%s is accepted", name)
		}
	}
	for i := 1; i < 10; i++ {
		equal, descending := sameZones(10, [4]int{0, 0, 1, 1}), sameZones(10, [4]int{0, 0, 1, 1})
		equal[i].Id = i
		descending[i].Id, descending[i-1].Id = i, i+1
		if impl.AreZones(equal) || impl.AreZones(descending) {
			t.Errorf("the Ids of the Zones %d and %d are equal or descend", i-1, i)
		}
	}
}

func TestInvalidZonesFailEverywhere(t *testing.T) {
	for name, list := range invalidZones() {
		at, one := impl.ZonesAt(list, 5, 5)
		overlap, two := impl.OverlapOf(list, 1, 2)
		same, three := impl.OverlapOf(list, 1, 1)
		all, four := impl.AreaOfAll(list)
		x, y, depth, five := impl.MostDeep(list)
		only, six := impl.AreaOnlyIn(list, 1)
		redundant, seven := impl.Redundant(list)
		touching, eight := impl.TouchingZones(list)
		if one || two || three || four || five || six || seven || eight {
			t.Errorf("%s: %v, %v, %v, %v, %v, %v, %v, %v", name, one, two, three, four, five, six, seven, eight)
		}
		if len(at)+len(redundant)+len(touching) != 0 || overlap != 0 || same != 0 || all != 0 || x != 0 || y != 0 || depth != 0 || only != 0 {
			t.Errorf("%s: %v, %d, %d, %d, %d %d %d, %d, %v, %v", name, at, overlap, same, all, x, y, depth, only, redundant, touching)
		}
	}
}

func TestUnknownZonesFail(t *testing.T) {
	for _, list := range [][]impl.Zone{nil, {}, zonesOf([4]int{0, 0, 10, 10}), zonesOf([4]int{0, 0, 10, 10}, [4]int{5, 5, 20, 20}), {{Id: 99, East: 1, North: 1}}} {
		for _, id := range []int{smallest, -1, 0, 1, 2, 3, 98, 99, 100, 1 << 32, 1<<32 + 1, largest} {
			known := slices.ContainsFunc(list, func(z impl.Zone) bool { return z.Id == id })
			if area, ok := impl.AreaOnlyIn(list, id); ok != known || !ok && area != 0 {
				t.Errorf("%v: AreaOnlyIn the Zone %d = %d, %v", list, id, area, ok)
			}
			for _, z := range append(slices.Clone(list), impl.Zone{Id: id}) {
				one, ok := impl.OverlapOf(list, id, z.Id)
				two, turned := impl.OverlapOf(list, z.Id, id)
				if ok != known || turned != known || !known && (one != 0 || two != 0) {
					t.Errorf("%v: OverlapOf %d and %d: %d, %v; %d, %v", list, id, z.Id, one, ok, two, turned)
				}
			}
		}
	}
}

func TestNoZones(t *testing.T) {
	for _, list := range [][]impl.Zone{nil, {}} {
		at, one := impl.ZonesAt(list, 0, 0)
		area, two := impl.AreaOfAll(list)
		redundant, three := impl.Redundant(list)
		touching, four := impl.TouchingZones(list)
		if !one || !two || !three || !four || area != 0 || len(at)+len(redundant)+len(touching) != 0 {
			t.Errorf("%v, %v; %d, %v; %v, %v; %v, %v", at, one, area, two, redundant, three, touching, four)
		}
		if x, y, depth, ok := impl.MostDeep(list); ok || x != 0 || y != 0 || depth != 0 {
			t.Errorf("the deepest of nothing: %d, %d, %d, %v", x, y, depth, ok)
		}
	}
}

func TestZonesAtKnown(t *testing.T) {
	list := []impl.Zone{{Id: 2, West: 10, South: 20, East: 30, North: 40}, {Id: 5, East: 9999, North: 9999}, {Id: 99, West: 30, South: 40, East: 31, North: 41}}
	for _, c := range []struct {
		x, y int
		want []int
	}{
		{10, 20, []int{2, 5}}, {29, 39, []int{2, 5}}, {10, 39, []int{2, 5}}, {29, 20, []int{2, 5}}, {15, 25, []int{2, 5}},
		{9, 20, []int{5}}, {30, 20, []int{5}}, {10, 19, []int{5}}, {10, 40, []int{5}}, {30, 40, []int{5, 99}}, {31, 40, []int{5}}, {30, 41, []int{5}},
		{29, 40, []int{5}}, {30, 39, []int{5}}, {0, 0, []int{5}}, {9998, 9998, []int{5}}, {0, 9998, []int{5}}, {9998, 0, []int{5}}, {20, 10, []int{5}}, {40, 30, []int{5}},
	} {
		if ids, ok := impl.ZonesAt(list, c.x, c.y); !ok || !slices.Equal(ids, c.want) {
			t.Errorf("ZonesAt %d, %d = %v, %v", c.x, c.y, ids, ok)
		}
		if ids, ok := impl.ZonesAt(list[:1], c.x, c.y); !ok || len(ids) != len(c.want)-1 && c.x != 30 {
			t.Errorf("one Zone at %d, %d: %v, %v", c.x, c.y, ids, ok)
		}
	}
}

func TestZonesAtLimits(t *testing.T) {
	list := zonesOf([4]int{0, 0, 9999, 9999})
	for _, n := range []int{smallest, -1, 0, 1, 9997, 9998, 9999, 10000, 1 << 32, 1<<32 + 5, largest} {
		want := n >= 0 && n <= 9998
		across, one := impl.ZonesAt(list, n, 7)
		up, two := impl.ZonesAt(list, 7, n)
		both, three := impl.ZonesAt(nil, n, n)
		if one != want || two != want || three != want || slices.Equal(across, []int{1}) != want || slices.Equal(up, []int{1}) != want ||
			!want && len(across)+len(up) != 0 || len(both) != 0 {
			t.Errorf("%d: %v, %v; %v, %v; %v, %v", n, across, one, up, two, both, three)
		}
	}
}

func TestZonesAtManyZones(t *testing.T) {
	for _, list := range manyZones() {
		far := farZones(list)
		for x := range mapSide {
			for y := range mapSide {
				ids, one := impl.ZonesAt(list, x, y)
				distant, two := impl.ZonesAt(far, farSides[x], farSides[y])
				upper, three := impl.ZonesAt(far, farSides[x+1]-1, farSides[y+1]-1)
				want := zonesWith(list, x, y)
				if !one || !two || !three || !slices.Equal(ids, want) || !slices.Equal(distant, want) || !slices.Equal(upper, want) {
					t.Fatalf("%v at %d, %d: %v, %v, %v", list, x, y, ids, distant, upper)
				}
			}
		}
	}
}

// zonePair is two Zones, what they have in common, and whether they touch.
type zonePair struct {
	name    string
	a, b    [4]int
	overlap int
	touch   bool
}

func zonePairs() []zonePair {
	return []zonePair{
		{"the same", [4]int{10, 10, 20, 30}, [4]int{10, 10, 20, 30}, 200, false},
		{"one in the other", [4]int{10, 10, 20, 30}, [4]int{11, 12, 19, 20}, 64, false},
		{"in the other at its edge", [4]int{10, 10, 20, 30}, [4]int{10, 10, 12, 30}, 40, false},
		{"a corner in common", [4]int{10, 10, 20, 30}, [4]int{19, 29, 50, 50}, 1, false},
		{"a cross", [4]int{10, 10, 20, 30}, [4]int{0, 15, 50, 18}, 30, false},
		{"across one side", [4]int{10, 10, 20, 30}, [4]int{15, 0, 16, 12}, 2, false},
		{"a part of an edge", [4]int{10, 10, 20, 30}, [4]int{20, 29, 25, 40}, 0, true},
		{"a part of an upper edge", [4]int{10, 10, 20, 30}, [4]int{0, 30, 11, 40}, 0, true},
		{"a whole edge", [4]int{10, 10, 20, 30}, [4]int{20, 10, 30, 30}, 0, true},
		{"a whole upper edge", [4]int{10, 10, 20, 30}, [4]int{10, 30, 20, 31}, 0, true},
		{"a part within an edge", [4]int{10, 10, 20, 30}, [4]int{20, 15, 30, 16}, 0, true},
		{"an edge that is longer", [4]int{10, 10, 20, 30}, [4]int{0, 0, 9999, 10}, 0, true},
		{"the north-eastern corner", [4]int{10, 10, 20, 30}, [4]int{20, 30, 30, 40}, 0, false},
		{"the south-eastern corner", [4]int{10, 10, 20, 30}, [4]int{20, 0, 30, 10}, 0, false},
		{"beside, with a gap", [4]int{10, 10, 20, 30}, [4]int{21, 10, 30, 30}, 0, false},
		{"above, with a gap", [4]int{10, 10, 20, 30}, [4]int{10, 31, 20, 40}, 0, false},
		{"on the line of an edge, behind it", [4]int{10, 10, 20, 30}, [4]int{20, 31, 30, 40}, 0, false},
		{"on the line of an upper edge, behind it", [4]int{10, 10, 20, 30}, [4]int{21, 30, 30, 40}, 0, false},
		{"far apart", [4]int{0, 0, 1, 1}, [4]int{9998, 9998, 9999, 9999}, 0, false},
		{"far to both sides", [4]int{0, 0, 10, 10}, [4]int{100, 200, 150, 260}, 0, false},
		{"the whole map", [4]int{0, 0, 9999, 9999}, [4]int{0, 0, 9999, 9999}, 99980001, false},
		{"the halves of the map", [4]int{0, 0, 5000, 9999}, [4]int{5000, 0, 9999, 9999}, 0, true},
	}
}

func TestPairsOfZones(t *testing.T) {
	for _, p := range zonePairs() {
		for _, list := range [][]impl.Zone{zonesOf(p.a, p.b), zonesOf(p.b, p.a)} {
			overlap, one := impl.OverlapOf(list, 1, 2)
			turned, two := impl.OverlapOf(list, 2, 1)
			all, three := impl.AreaOfAll(list)
			areas := areaInAll(list[:1]) + areaInAll(list[1:])
			if !one || !two || !three || overlap != p.overlap || turned != p.overlap || all != areas-p.overlap {
				t.Errorf("%s: %d, %v; %d, %v; %d of %d, %v", p.name, overlap, one, turned, two, all, areas, three)
			}
			touching, ok := impl.TouchingZones(list)
			if !ok || len(touching) > 1 || slices.Contains(touching, [2]int{1, 2}) != p.touch || len(touching) == 1 != p.touch {
				t.Errorf("%s: touching %v, %v", p.name, touching, ok)
			}
			for i := range list {
				only, ok := impl.AreaOnlyIn(list, i+1)
				if !ok || only != areaInAll(list[i:i+1])-p.overlap {
					t.Errorf("%s: only in %d: %d, %v", p.name, i+1, only, ok)
				}
			}
		}
	}
}

func TestOverlapOfManyZones(t *testing.T) {
	for _, small := range manyZones() {
		for _, list := range [][]impl.Zone{small, farZones(small)} {
			for _, a := range list {
				for _, b := range list {
					if area, ok := impl.OverlapOf(list, a.Id, b.Id); !ok || area != areaInAll([]impl.Zone{a, b}) {
						t.Fatalf("%v: OverlapOf %d and %d = %d, %v", list, a.Id, b.Id, area, ok)
					}
				}
			}
		}
	}
}

// TestAreaOfAllIsAtMostTheSum is promise 6. The area is the sum exactly if no two Zones overlap.
func TestAreaOfAllIsAtMostTheSum(t *testing.T) {
	less, equal := 0, 0
	for _, small := range manyZones() {
		for _, list := range [][]impl.Zone{small, farZones(small)} {
			area, ok := impl.AreaOfAll(list)
			sum, overlap := 0, false
			for i, z := range list {
				own, ok := impl.OverlapOf(list, z.Id, z.Id)
				if !ok || own != (z.East-z.West)*(z.North-z.South) || area < own {
					t.Errorf("%v: the area of %d is %d, %v; that of all is %d", list, z.Id, own, ok, area)
				}
				sum += own
				for _, other := range list[:i] {
					common, _ := impl.OverlapOf(list, z.Id, other.Id)
					overlap = overlap || common > 0
				}
			}
			if !ok || area > sum || area == sum == overlap || area != areaInAny(list) {
				t.Fatalf("%v: the area is %d, %v, not %d; the sum is %d", list, area, ok, areaInAny(list), sum)
			}
			if overlap {
				less++
			} else if len(list) > 1 {
				equal++
			}
		}
	}
	if less < 100 || equal < 10 {
		t.Errorf("%d areas are less than the sum, %d equal", less, equal)
	}
}

func TestAreaOfAllKnown(t *testing.T) {
	for _, c := range []struct {
		name string
		list []impl.Zone
		want int
	}{
		{"one", zonesOf([4]int{3, 4, 5, 7}), 6},
		{"the smallest", zonesOf([4]int{0, 0, 1, 1}), 1},
		{"the greatest ten times", sameZones(10, [4]int{0, 0, 9999, 9999}), 99980001},
		{"a frame around nothing", zonesOf([4]int{0, 0, 10, 1}, [4]int{0, 9, 10, 10}, [4]int{0, 1, 1, 9}, [4]int{9, 1, 10, 9}), 36},
		{"a frame with doubled corners", zonesOf([4]int{0, 0, 10, 1}, [4]int{0, 9, 10, 10}, [4]int{0, 0, 1, 10}, [4]int{9, 0, 10, 10}), 36},
		{"three at one square", zonesOf([4]int{0, 0, 2, 2}, [4]int{1, 1, 3, 3}, [4]int{1, 0, 2, 3}), 7},
		{"a stair", zonesOf([4]int{0, 0, 1, 1}, [4]int{1, 1, 2, 2}, [4]int{2, 2, 3, 3}), 3},
		{"touching only", zonesOf([4]int{0, 0, 5, 5}, [4]int{5, 0, 10, 5}), 50},
	} {
		if area, ok := impl.AreaOfAll(c.list); !ok || area != c.want {
			t.Errorf("%s: %d, %v", c.name, area, ok)
		}
	}
}

func TestMostDeepKnown(t *testing.T) {
	for _, c := range []struct {
		name        string
		list        []impl.Zone
		x, y, depth int
	}{
		{"one", zonesOf([4]int{3, 4, 5, 7}), 3, 4, 1},
		{"ten", sameZones(10, [4]int{9998, 9998, 9999, 9999}), 9998, 9998, 10},
		{"the smallest X before the smallest Y", zonesOf([4]int{5, 0, 6, 1}, [4]int{2, 8, 3, 9}), 2, 8, 1},
		{"the smallest Y of one X", zonesOf([4]int{5, 7, 6, 8}, [4]int{5, 2, 6, 3}, [4]int{5, 4, 6, 5}), 5, 2, 1},
		{"the deepest before the smallest X", zonesOf([4]int{0, 0, 9, 9}, [4]int{8, 8, 12, 12}), 8, 8, 2},
		{"two crosses", zonesOf([4]int{0, 5, 20, 6}, [4]int{7, 0, 8, 20}, [4]int{3, 0, 4, 20}, [4]int{0, 2, 20, 3}), 3, 2, 2},
		{"touching is not deeper", zonesOf([4]int{5, 5, 6, 6}, [4]int{6, 5, 7, 6}, [4]int{5, 6, 6, 7}), 5, 5, 1},
		{"nested", zonesOf([4]int{0, 0, 90, 90}, [4]int{10, 20, 80, 80}, [4]int{30, 21, 50, 22}), 30, 21, 3},
		{"ten apart", zonesOf([4]int{9, 0, 10, 1}, [4]int{8, 1, 9, 2}, [4]int{7, 2, 8, 3}, [4]int{6, 3, 7, 4}, [4]int{5, 4, 6, 5}, [4]int{4, 5, 5, 6},
			[4]int{3, 6, 4, 7}, [4]int{2, 7, 3, 8}, [4]int{1, 9, 2, 10}, [4]int{1, 8, 2, 9}), 1, 8, 1},
	} {
		// The answer must not depend on chance: that would show when it is asked for often.
		for range 50 {
			if x, y, depth, ok := impl.MostDeep(c.list); !ok || x != c.x || y != c.y || depth != c.depth {
				t.Fatalf("%s: %d, %d, %d, %v", c.name, x, y, depth, ok)
			}
		}
	}
}

func TestMostDeepManyZones(t *testing.T) {
	for _, list := range manyZones() {
		wantX, wantY, want := 0, 0, 0
		for x := range mapSide {
			for y := range mapSide {
				if depth := len(zonesWith(list, x, y)); depth > want {
					wantX, wantY, want = x, y, depth
				}
			}
		}
		x, y, depth, ok := impl.MostDeep(list)
		if ok != (len(list) > 0) || x != wantX || y != wantY || depth != want {
			t.Errorf("%v: %d, %d, %d, %v, not %d, %d, %d", list, x, y, depth, ok, wantX, wantY, want)
		}
		x, y, depth, ok = impl.MostDeep(farZones(list))
		if ok != (len(list) > 0) || x != farSides[wantX] || y != farSides[wantY] || depth != want {
			t.Errorf("%v: far: %d, %d, %d, %v", list, x, y, depth, ok)
		}
	}
}

func TestAreaOnlyInKnown(t *testing.T) {
	list := zonesOf([4]int{0, 0, 10, 10}, [4]int{5, 0, 15, 10}, [4]int{2, 2, 4, 4}, [4]int{15, 0, 20, 10}, [4]int{6, 1, 9, 3})
	for id, want := range map[int]int{1: 46, 2: 50, 3: 0, 4: 50, 5: 0} {
		if area, ok := impl.AreaOnlyIn(list, id); !ok || area != want {
			t.Errorf("only in %d: %d, %v", id, area, ok)
		}
	}
	for n := 1; n <= 10; n++ {
		area, ok := impl.AreaOnlyIn(sameZones(n, [4]int{0, 0, 9999, 9999}), n)
		if !ok || area == 0 != (n > 1) || n == 1 && area != 99980001 {
			t.Errorf("only in one of %d: %d, %v", n, area, ok)
		}
	}
}

func TestRedundantKnown(t *testing.T) {
	for _, c := range []struct {
		name string
		list []impl.Zone
		want []int
	}{
		{"one", zonesOf([4]int{0, 0, 1, 1}), nil},
		{"two of which each alone is redundant", sameZones(2, [4]int{3, 3, 9, 9}), []int{1, 2}},
		{"all ten", sameZones(10, [4]int{3, 3, 9, 9}), []int{1, 2, 3, 4, 5, 6, 7, 8, 9, 10}},
		{"the inner one", zonesOf([4]int{1, 1, 2, 2}, [4]int{0, 0, 9, 9}), []int{1}},
		{"the inner one at the edge", zonesOf([4]int{0, 0, 9, 9}, [4]int{0, 0, 9, 8}), []int{2}},
		{"covered by two that touch", zonesOf([4]int{0, 0, 5, 9}, [4]int{2, 2, 7, 7}, [4]int{5, 0, 9, 9}), []int{2}},
		{"covered but for one square", zonesOf([4]int{0, 0, 5, 9}, [4]int{2, 2, 7, 7}, [4]int{5, 0, 9, 6}, [4]int{5, 6, 6, 9}), nil},
		{"a chain in which each second one is redundant", zonesOf([4]int{0, 0, 3, 1}, [4]int{2, 0, 5, 1}, [4]int{3, 0, 6, 1}), []int{2}},
		{"neighbors that are redundant, but not both", zonesOf([4]int{0, 0, 2, 1}, [4]int{1, 0, 3, 1}, [4]int{2, 0, 4, 1}, [4]int{3, 0, 5, 1}), []int{2, 3}},
		{"touching only", zonesOf([4]int{0, 0, 5, 5}, [4]int{5, 0, 10, 5}, [4]int{0, 5, 10, 10}), nil},
		{"other Ids", []impl.Zone{{Id: 40, West: 1, South: 1, East: 2, North: 2}, {Id: 60, East: 9, North: 9}, {Id: 99, West: 8, South: 8, East: 9, North: 9}}, []int{40, 99}},
	} {
		if ids, ok := impl.Redundant(c.list); !ok || !slices.Equal(ids, c.want) {
			t.Errorf("%s: %v, %v", c.name, ids, ok)
		}
	}
}

func TestWhatOneZoneAdds(t *testing.T) {
	found := 0
	for _, small := range manyZones() {
		for _, list := range [][]impl.Zone{small, farZones(small)} {
			all := areaInAny(list)
			want := []int{}
			for i, z := range list {
				rest, one := impl.AreaOfAll(without(list, i))
				only, two := impl.AreaOnlyIn(list, z.Id)
				if !one || !two || only != all-rest || rest != areaInAny(without(list, i)) {
					t.Errorf("%v: only in %d: %d, %v; all but it: %d of %d, %v", list, z.Id, only, two, rest, all, one)
				}
				if all == rest {
					want = append(want, z.Id)
				}
			}
			if ids, ok := impl.Redundant(list); !ok || !slices.Equal(ids, want) {
				t.Errorf("%v: redundant: %v, %v, not %v", list, ids, ok, want)
			}
			found += len(want)
		}
	}
	if found < 100 {
		t.Errorf("%d Zones were redundant", found)
	}
}

func TestCutZoneKnown(t *testing.T) {
	a := [4]int{10, 20, 30, 40}
	for _, c := range []struct {
		name string
		b    [4]int
		want [][4]int
	}{
		{"the same", a, nil},
		{"b greater", [4]int{0, 0, 9999, 9999}, nil},
		{"b greater by one to the east", [4]int{10, 20, 31, 40}, nil},
		{"b in the middle", [4]int{12, 23, 26, 35}, [][4]int{{10, 20, 30, 23}, {10, 35, 30, 40}, {10, 23, 12, 35}, {26, 23, 30, 35}}},
		{"b in the middle, one less", [4]int{11, 21, 29, 39}, [][4]int{{10, 20, 30, 21}, {10, 39, 30, 40}, {10, 21, 11, 39}, {29, 21, 30, 39}}},
		{"south is left", [4]int{10, 25, 30, 40}, [][4]int{{10, 20, 30, 25}}},
		{"north is left", [4]int{0, 0, 50, 39}, [][4]int{{10, 39, 30, 40}}},
		{"west is left", [4]int{11, 20, 30, 40}, [][4]int{{10, 20, 11, 40}}},
		{"east is left", [4]int{10, 20, 29, 40}, [][4]int{{29, 20, 30, 40}}},
		{"a corner is gone", [4]int{0, 0, 15, 25}, [][4]int{{10, 25, 30, 40}, {15, 20, 30, 25}}},
		{"a strip is gone", [4]int{0, 30, 50, 31}, [][4]int{{10, 20, 30, 30}, {10, 31, 30, 40}}},
		{"an upright strip is gone", [4]int{20, 0, 21, 50}, [][4]int{{10, 20, 20, 40}, {21, 20, 30, 40}}},
		{"b touches the east", [4]int{30, 20, 50, 40}, [][4]int{{10, 20, 30, 40}}},
		{"b touches the west", [4]int{5, 20, 10, 40}, [][4]int{{10, 20, 30, 40}}},
		{"b touches the north", [4]int{10, 40, 30, 50}, [][4]int{{10, 20, 30, 40}}},
		{"b touches the south", [4]int{10, 10, 30, 20}, [][4]int{{10, 20, 30, 40}}},
		{"b touches a corner", [4]int{30, 40, 50, 50}, [][4]int{{10, 20, 30, 40}}},
		{"b far in the north", [4]int{10, 9000, 30, 9999}, [][4]int{{10, 20, 30, 40}}},
		{"b far in the south-west", [4]int{0, 0, 1, 1}, [][4]int{{10, 20, 30, 40}}},
		{"b far in the east, between the sides", [4]int{9000, 25, 9999, 35}, [][4]int{{10, 20, 30, 25}, {10, 35, 30, 40}, {10, 25, 30, 35}}},
		{"b in the west, between the sides", [4]int{0, 25, 5, 35}, [][4]int{{10, 20, 30, 25}, {10, 35, 30, 40}, {10, 25, 30, 35}}},
		{"b in the east, over the south", [4]int{40, 0, 50, 30}, [][4]int{{10, 30, 30, 40}, {10, 20, 30, 30}}},
	} {
		for _, id := range []int{1, 2, 99} {
			first, second := zonesOf(a)[0], zonesOf(c.b)[0]
			second.Id = id // equal Ids do not matter here
			if parts, ok := impl.CutZone(first, second); !ok || !slices.Equal(parts, c.want) {
				t.Errorf("%s: %v, %v", c.name, parts, ok)
			}
		}
	}
}

// partsLeft sorts the unit squares of a that are not in b into the four parts, and returns the
// smallest rectangles around them.
func partsLeft(t *testing.T, a, b impl.Zone) [][4]int {
	parts, squares := [4][4]int{}, [4]int{}
	for x := a.West; x < a.East; x++ {
		for y := a.South; y < a.North; y++ {
			part := 3
			switch {
			case has(b, x, y):
				continue
			case y < b.South:
				part = 0
			case y >= b.North:
				part = 1
			case x < b.West:
				part = 2
			}
			if p := &parts[part]; squares[part] == 0 {
				*p = [4]int{x, y, x + 1, y + 1}
			} else {
				*p = [4]int{min(p[0], x), min(p[1], y), max(p[2], x+1), max(p[3], y+1)}
			}
			squares[part]++
		}
	}
	left := [][4]int{}
	for i, p := range parts {
		if squares[i] != (p[2]-p[0])*(p[3]-p[1]) {
			t.Fatalf("%v without %v: the part %d has %d squares of %v", a, b, i, squares[i], p)
		}
		if squares[i] > 0 {
			left = append(left, p)
		}
	}
	return left
}

// TestCutZoneSquareBySquare cuts all small rectangles at each other, near and far apart.
func TestCutZoneSquareBySquare(t *testing.T) {
	all := []impl.Zone{}
	for n := range 6 * 6 * 6 * 6 {
		if z := (impl.Zone{Id: 7, West: n % 6, South: n / 6 % 6, East: n / 36 % 6, North: n / 216}); impl.IsZone(z) {
			all = append(all, z)
		}
	}
	if len(all) != 15*15 {
		t.Fatalf("%d rectangles", len(all))
	}
	for _, a := range all {
		for _, b := range all {
			want := partsLeft(t, a, b)
			if parts, ok := impl.CutZone(a, b); !ok || !slices.Equal(parts, want) {
				t.Fatalf("%v without %v: %v, %v, not %v", a, b, parts, ok, want)
			}
			for i, p := range want {
				want[i] = [4]int{farSides[p[0]], farSides[p[1]], farSides[p[2]], farSides[p[3]]}
			}
			if parts, ok := impl.CutZone(farZone(a), farZone(b)); !ok || !slices.Equal(parts, want) {
				t.Fatalf("far: %v without %v: %v, %v, not %v", a, b, parts, ok, want)
			}
		}
	}
}

func TestCutZoneLeavesTheRest(t *testing.T) {
	for _, p := range zonePairs() {
		list := zonesOf(p.a, p.b)
		parts, ok := impl.CutZone(list[0], list[1])
		area := 0
		for _, r := range parts {
			area += (r[2] - r[0]) * (r[3] - r[1])
		}
		if !ok || area != areaInAll(list[:1])-p.overlap {
			t.Errorf("%s: %v, %v", p.name, parts, ok)
		}
	}
}

func TestCutZoneFails(t *testing.T) {
	good := impl.Zone{Id: 1, East: 10, North: 10}
	for _, z := range []impl.Zone{{}, {East: 10, North: 10}, {Id: 100, East: 10, North: 10}, {Id: 1, North: 10}, {Id: 1, East: 10},
		{Id: 1, West: 11, East: 10, North: 10}, {Id: 1, West: -1, East: 10, North: 10}, {Id: 1, East: 10, North: 10000}, {Id: 1, West: smallest, East: largest, North: 1}} {
		checkCutFails(t, z, good, true)
		checkCutFails(t, z, z, true)
	}
	checkCutFails(t, good, good, false)
}

// areNextTo reports whether a unit square of a is beside one of b, and none is in both.
func areNextTo(a, b impl.Zone) bool {
	next := false
	for x := a.West; x < a.East; x++ {
		for y := a.South; y < a.North; y++ {
			if has(b, x, y) {
				return false
			}
			next = next || has(b, x-1, y) || has(b, x+1, y) || has(b, x, y-1) || has(b, x, y+1)
		}
	}
	return next
}

func TestTouchingZonesSquareBySquare(t *testing.T) {
	found := 0
	for _, list := range manyZones() {
		want := [][2]int{}
		for _, a := range list {
			for _, b := range list {
				if a.Id < b.Id && areNextTo(a, b) {
					want = append(want, [2]int{a.Id, b.Id})
				}
			}
		}
		near, one := impl.TouchingZones(list)
		far, two := impl.TouchingZones(farZones(list))
		if !one || !two || !slices.Equal(near, want) || !slices.Equal(far, want) {
			t.Errorf("%v: touching %v, %v; far: %v, %v, not %v", list, near, one, far, two, want)
		}
		found += len(want)
	}
	if found < 100 {
		t.Errorf("%d pairs touched", found)
	}
}

func TestTouchingZonesInOrder(t *testing.T) {
	// A row of ten: each one touches the next, the last ones come first in the row.
	list := []impl.Zone{}
	want := [][2]int{}
	for i := range 10 {
		list = append(list, impl.Zone{Id: 10*i + 9, West: 9 - i, South: i, East: 10 - i, North: i + 5})
		if i > 0 {
			want = append(want, [2]int{10*i - 1, 10*i + 9})
		}
	}
	if pairs, ok := impl.TouchingZones(list); !ok || !slices.Equal(pairs, want) {
		t.Errorf("a row: %v, %v", pairs, ok)
	}
	// One in the middle and four around it, which meet at corners only.
	around := zonesOf([4]int{5, 6, 6, 7}, [4]int{4, 5, 5, 6}, [4]int{5, 5, 6, 6}, [4]int{6, 5, 7, 6}, [4]int{5, 4, 6, 5})
	if pairs, ok := impl.TouchingZones(around); !ok || !slices.Equal(pairs, [][2]int{{1, 3}, {2, 3}, {3, 4}, {3, 5}}) {
		t.Errorf("around one: %v, %v", pairs, ok)
	}
}

// callZoneFunctions calls each function of the chapter.
func callZoneFunctions(list []impl.Zone) {
	impl.AreZones(list)
	impl.AreaOfAll(list)
	impl.MostDeep(list)
	impl.Redundant(list)
	impl.TouchingZones(list)
	for _, n := range []int{smallest, -7, 0, 1, 2, 5, 20, 99, 9998, largest} {
		impl.ZonesAt(list, n, 5)
		impl.ZonesAt(list, 5, n)
		impl.AreaOnlyIn(list, n)
		impl.OverlapOf(list, n, 1)
		impl.OverlapOf(list, 2, n)
	}
	for _, z := range list {
		impl.IsZone(z)
		impl.CutZone(z, list[0])
	}
}

func TestZoneFunctionsLeaveTheListAlone(t *testing.T) {
	lists := manyZones()
	for _, list := range invalidZones() {
		lists = append(lists, list)
	}
	lists = append(lists, []impl.Zone{{Id: smallest, West: largest, South: smallest, East: smallest, North: largest}, {Id: largest, West: smallest, South: smallest, East: largest, North: largest}})
	behind := []impl.Zone{{Id: -7}, {Id: -7}}
	for _, list := range lists {
		guard := append(slices.Clone(list), behind...)
		callZoneFunctions(guard[:len(list)])
		if !slices.Equal(guard[:len(list)], list) || !slices.Equal(guard[len(list):], behind) {
			t.Fatalf("%v has become %v", list, guard)
		}
	}
}

// TestZoneResultsOwnTheirMemory spoils each result and asks again.
func TestZoneResultsOwnTheirMemory(t *testing.T) {
	list := zonesOf([4]int{0, 0, 10, 10}, [4]int{2, 2, 4, 4}, [4]int{10, 0, 20, 10})
	for range 2 {
		at, one := impl.ZonesAt(list, 2, 2)
		redundant, two := impl.Redundant(list)
		touching, three := impl.TouchingZones(list)
		parts, four := impl.CutZone(list[0], list[1])
		if !one || !two || !three || !four || !slices.Equal(at, []int{1, 2}) || !slices.Equal(redundant, []int{2}) ||
			!slices.Equal(touching, [][2]int{{1, 3}}) || len(parts) != 4 || parts[0] != [4]int{0, 0, 10, 2} {
			t.Fatalf("%v, %v, %v, %v", at, redundant, touching, parts)
		}
		clear(at[:cap(at)])
		clear(redundant[:cap(redundant)])
		clear(touching[:cap(touching)])
		clear(parts[:cap(parts)])
	}
}
