package tests

import (
	"maps"
	"slices"
	"strconv"
	"strings"
	"testing"

	"loop.example/g01060/impl"
)

// makersOf numbers the Makers with these years and Heirs, each From, Until and Heir, from 1.
func makersOf(rows ...[3]int) []impl.Maker {
	list := []impl.Maker{}
	for i, r := range rows {
		list = append(list, impl.Maker{Id: i + 1, Name: string(rune('a' + i)), From: r[0], Until: r[1], Heir: r[2]})
	}
	return list
}

// houses returns two families: 3, 2 and 7 lead to 40, which 99 is the Heir of, and 41 is alone.
func houses() []impl.Maker {
	return []impl.Maker{
		{Id: 2, Name: "blaeu", From: 1600, Until: 1619, Heir: 7},
		{Id: 3, Name: "cassini", From: 1595, Until: 1640, Heir: 40},
		{Id: 7, Name: "de", From: 1620, Until: 1630, Heir: 40},
		{Id: 40, Name: "e", From: 1650, Until: 1695, Heir: 99},
		{Id: 41, Name: "abcdefghij", From: 1500, Until: 1500},
		{Id: 99, Name: "zz", From: 1700, Until: 2100},
	}
}

// lineOfAll returns n Makers in one line, three years each with two years between. The Ids ascend
// along the line or, if they are turned, descend.
func lineOfAll(n int, turned bool) []impl.Maker {
	list := []impl.Maker{}
	for i := range n {
		at, heir := i, i+2
		if turned {
			at, heir = n-1-i, i
		}
		m := impl.Maker{Id: i + 1, Name: "line", From: 1600 + 5*at, Until: 1602 + 5*at}
		if at < n-1 {
			m.Heir = heir
		}
		list = append(list, m)
	}
	return list
}

// aloneMakers returns n Makers without Heirs and with the Ids from 1 on.
func aloneMakers(n int) []impl.Maker { return makersOf(slices.Repeat([][3]int{{1700, 1750, 0}}, n)...) }

// manyMakers returns lists of Makers whose years are often just behind one another.
func manyMakers() [][]impl.Maker {
	lists := [][]impl.Maker{nil, {}, houses(), aloneMakers(10), lineOfAll(10, false), lineOfAll(10, true)}
	n := 1
	next := func(low, high int) int {
		n = (n*1103 + 12345) % 1000003
		return low + n/7%(high-low+1)
	}
	for len(lists) < 400 {
		list := []impl.Maker{}
		last := next(1502, 1560)
		for id := next(1, 9); len(list) < len(lists)%11; id += next(1, 10) {
			m := impl.Maker{Id: id, Name: "m" + string(rune('a'+next(0, 25))), From: next(1500, last)}
			m.Until = min(last, m.From+next(0, 12))
			list = append(list, m)
		}
		for i, m := range list {
			later := slices.DeleteFunc(slices.Clone(list), func(x impl.Maker) bool { return x.From <= m.Until })
			if len(later) > 0 && next(0, 4) > 0 {
				list[i].Heir = later[next(0, len(later)-1)].Id
			}
		}
		lists = append(lists, list)
	}
	return lists
}

// invalidMakers returns lists that are no Makers. The Ids 1 and 2 are in each of them, and the
// years of both are valid.
func invalidMakers() map[string][]impl.Maker {
	lists := map[string][]impl.Maker{}
	add := func(name string, spoil func(m *impl.Maker)) {
		list := makersOf([3]int{1700, 1720, 2}, [3]int{1721, 1740, 3}, [3]int{1750, 1760, 0})
		spoil(&list[2])
		lists[name] = list
	}
	add("an Id again", func(m *impl.Maker) { m.Id = 2 })
	add("the first Id again", func(m *impl.Maker) { m.Id = 1 })
	add("another Id, so that an Heir is not there", func(m *impl.Maker) { m.Id = 4 })
	add("an Id of 100", func(m *impl.Maker) { m.Id = 100 })
	add("no Name", func(m *impl.Maker) { m.Name = "" })
	add("a Name with a capital letter", func(m *impl.Maker) { m.Name = "Blaeu" })
	add("an Heir who begins in the year Until", func(m *impl.Maker) { m.From = 1740 })
	add("an Heir who begins before", func(m *impl.Maker) { m.From = 1500 })
	add("until before From", func(m *impl.Maker) { m.Until = 1749 })
	add("until 2101", func(m *impl.Maker) { m.Until = 2101 })
	add("the greatest year", func(m *impl.Maker) { m.From, m.Until = largest, largest })
	add("their own Heir", func(m *impl.Maker) { m.Heir = 3 })
	add("a circle", func(m *impl.Maker) { m.Heir = 1 })
	add("an Heir of those before", func(m *impl.Maker) { m.Heir = 2 })
	add("an Heir who is not there", func(m *impl.Maker) { m.Heir = 98 })
	add("an Heir of 100", func(m *impl.Maker) { m.Heir = 100 })
	add("an Heir of -1", func(m *impl.Maker) { m.Heir = -1 })
	add("the zero Maker", func(m *impl.Maker) { *m = impl.Maker{} })
	good := makersOf([3]int{1700, 1720, 2}, [3]int{1721, 1740, 0})
	lists["descending"] = []impl.Maker{good[1], good[0]}
	lists["an Id of 0 before"] = append([]impl.Maker{{Name: "o", From: 1700, Until: 1720}}, good...)
	lists["an Id of 0 with an Heir before"] = append([]impl.Maker{{Name: "o", From: 1700, Until: 1720, Heir: 2}}, good...)
	lists["eleven"] = append(aloneMakers(10), impl.Maker{Id: 11, Name: "k", From: 1700, Until: 1720})
	lists["eleven in a line"] = lineOfAll(11, false)
	lists["very many"] = slices.Repeat(good, 100000)
	return lists
}

func makerOf(list []impl.Maker, id int) impl.Maker {
	return list[slices.IndexFunc(list, func(m impl.Maker) bool { return m.Id == id })]
}

// idsOfMakers returns the Ids of the chosen Makers in the order of the list.
func idsOfMakers(list []impl.Maker, isChosen func(m impl.Maker) bool) []int {
	ids := []int{}
	for _, m := range list {
		if isChosen(m) {
			ids = append(ids, m.Id)
		}
	}
	return ids
}

// lineByHand goes from Heir to Heir.
func lineByHand(list []impl.Maker, id int) []impl.Maker {
	if m := makerOf(list, id); m.Heir != 0 {
		return append([]impl.Maker{m}, lineByHand(list, m.Heir)...)
	}
	return []impl.Maker{makerOf(list, id)}
}

// familyByHand returns the Ids of all Makers to whom Heirs lead, there or back, from one on.
func familyByHand(list []impl.Maker, id int) []int {
	family := map[int]bool{id: true}
	for range list {
		for _, m := range list {
			if m.Heir != 0 && (family[m.Id] || family[m.Heir]) {
				family[m.Id], family[m.Heir] = true, true
			}
		}
	}
	return idsOfMakers(list, func(m impl.Maker) bool { return family[m.Id] })
}

func workIn(list []impl.Maker, year int) []int {
	return idsOfMakers(list, func(m impl.Maker) bool { return m.From <= year && year <= m.Until })
}

// checkMaker checks a Maker by themselves. The Heir may be any other Id then, so that only a
// Maker without one is asked for in a list.
func checkMaker(t *testing.T, m impl.Maker, want bool) {
	t.Helper()
	if impl.IsMaker(m) != want || m.Heir == 0 && impl.AreMakers([]impl.Maker{m}) != want {
		t.Errorf("%+v is valid: %v, not %v", m, !want, want)
	}
	if text, ok := impl.MakerText(m); ok != want || (text != "") != want {
		t.Errorf("MakerText(%+v) = %q, %v", m, text, ok)
	}
}

func TestMakerLimits(t *testing.T) {
	for _, c := range []struct {
		name      string
		low, high int
		set       func(m *impl.Maker, n int)
	}{
		{"Id", 1, 99, func(m *impl.Maker, n int) { m.Id = n }},
		{"From", 1500, 1650, func(m *impl.Maker, n int) { m.From = n }},
		{"Until", 1600, 2100, func(m *impl.Maker, n int) { m.Until = n }},
		{"From and Until", 1500, 2100, func(m *impl.Maker, n int) { m.From, m.Until = n, n }},
	} {
		for _, n := range []int{smallest, -1, 0, 1, c.low - 1, c.low, c.low + 1, c.high - 1, c.high, c.high + 1, 1499, 1500, 2100, 2101, 1 << 32, 1<<32 + 50, 1<<32 + 1620, largest} {
			m := impl.Maker{Id: 12, Name: "anna", From: 1600, Until: 1650}
			c.set(&m, n)
			checkMaker(t, m, n >= c.low && n <= c.high)
		}
	}
	for _, years := range [][2]int{{1500, 2100}, {1500, 1500}, {2100, 2100}, {2099, 2100}, {1500, 1501}} {
		checkMaker(t, impl.Maker{Id: 1, Name: "a", From: years[0], Until: years[1]}, true)
	}
	for _, years := range [][2]int{{0, 0}, {1499, 1500}, {1499, 1499}, {2100, 2101}, {2101, 2101}, {1501, 1500}, {2100, 1500}, {0, 1600}, {1600, 0}, {smallest, largest}, {largest, smallest}} {
		checkMaker(t, impl.Maker{Id: 1, Name: "a", From: years[0], Until: years[1]}, false)
	}
	checkMaker(t, impl.Maker{}, false)
}

func TestMakerNames(t *testing.T) {
	for name, want := range map[string]bool{
		"a": true, "z": true, "abcdefghij": true, "zzzzzzzzzz": true, "": false, "abcdefghijk": false, "A": false, "aB": false,
		"a b": false, " a": false, "a ": false, "`": false, "{": false, "a1": false, "é": false, "a\x00": false, "\xff": false, "a-b": false, ">": false,
		strings.Repeat("a", impl.MaxString+1): false,
	} {
		checkMaker(t, impl.Maker{Id: 12, Name: name, From: 1600, Until: 1650}, want)
	}
}

func TestMakerHeirs(t *testing.T) {
	for _, id := range []int{1, 2, 50, 98, 99} {
		for _, heir := range []int{smallest, -99, -1, 0, 1, 2, 49, 50, 51, 98, 99, 100, 1 << 32, 1<<32 + 5, largest} {
			want := heir >= 0 && heir <= 99 && heir != id
			checkMaker(t, impl.Maker{Id: id, Name: "a", From: 1600, Until: 1650, Heir: heir}, want)
			checkMaker(t, impl.Maker{Id: id, Name: "a", From: 1600, Until: 2100, Heir: heir}, want)
			for _, wrong := range []int{smallest, -1, 0, 100, largest} {
				checkMaker(t, impl.Maker{Id: wrong, Name: "a", From: 1600, Until: 1650, Heir: heir}, false)
			}
		}
	}
}

func TestAreMakers(t *testing.T) {
	for _, n := range []int{0, 1, 2, 9, 10, 11, 12, 20} {
		for _, list := range [][]impl.Maker{aloneMakers(n), lineOfAll(n, false), lineOfAll(n, true)} {
			if impl.AreMakers(list) != (n <= 10) {
				t.Errorf("%d Makers: %v", n, n > 10)
			}
		}
	}
	if !impl.AreMakers(nil) || impl.MaxMakers != 10 {
		t.Errorf("no Makers, or at most %d", impl.MaxMakers)
	}
	for i, list := range manyMakers() {
		if !impl.AreMakers(list) {
			t.Errorf("the list %d is rejected: %v", i, list)
		}
	}
	for name, list := range invalidMakers() {
		if impl.AreMakers(list) {
			t.Errorf("%s: accepted", name)
		}
	}
	for i := 1; i < 10; i++ {
		equal, descending := aloneMakers(10), aloneMakers(10)
		equal[i].Id = i
		descending[i].Id, descending[i-1].Id = i, i+1
		if impl.AreMakers(equal) || impl.AreMakers(descending) {
			t.Errorf("the Ids of the Makers %d and %d are equal or descend", i-1, i)
		}
	}
}

// TestHeirsOfALaterYear lets an Heir, before or behind in the list, begin in each year.
func TestHeirsOfALaterYear(t *testing.T) {
	for from := 1500; from <= 2100; from++ {
		for _, until := range []int{1500, 1501, 1600, 1601, 2098, 2099, 2100} {
			want := from > until
			first := makersOf([3]int{1500, until, 2}, [3]int{from, 2100, 0})
			second := makersOf([3]int{from, 2100, 0}, [3]int{1500, until, 1})
			if impl.AreMakers(first) != want || impl.AreMakers(second) != want {
				t.Errorf("until %d, the Heir from %d: %v", until, from, !want)
			}
			free := makersOf([3]int{1500, until, 0}, [3]int{from, 2100, 0})
			if !impl.AreMakers(free) {
				t.Errorf("until %d, another one from %d: rejected", until, from)
			}
		}
	}
}

func TestHeirsWhoAreThere(t *testing.T) {
	for _, list := range [][]impl.Maker{houses(), lineOfAll(10, false), lineOfAll(10, true)} {
		for heir := -1; heir <= 101; heir++ {
			for i, m := range list {
				changed := slices.Clone(list)
				changed[i].Heir = heir
				later := idsOfMakers(list, func(x impl.Maker) bool { return x.From > m.Until })
				if want := heir == 0 || slices.Contains(later, heir); impl.AreMakers(changed) != want {
					t.Errorf("the Heir %d of %d: %v", heir, m.Id, !want)
				}
			}
		}
	}
	// Two Makers may have the same Heir, and so may all but one.
	if !impl.AreMakers(makersOf([3]int{1500, 1600, 3}, [3]int{1500, 1700, 3}, [3]int{1701, 1701, 0})) {
		t.Error("the same Heir twice is rejected")
	}
	all := aloneMakers(10)
	all[4].From, all[4].Until = 1751, 1751
	for i := range all {
		if i != 4 {
			all[i].Heir = 5
		}
	}
	if !impl.AreMakers(all) {
		t.Error("the same Heir of all others is rejected")
	}
}

func TestInvalidMakersFailEverywhere(t *testing.T) {
	for name, list := range invalidMakers() {
		line, one := impl.LineOf(list, 1)
		keeper, two := impl.KeeperIn(list, 1, 1730)
		active, three := impl.ActiveIn(list, 1730)
		founders, four := impl.FounderIds(list)
		common, five := impl.FirstCommon(list, 1, 2)
		same, six := impl.FirstCommon(list, 1, 1)
		families, seven := impl.Families(list)
		ended, eight := impl.EndMaker(list, 1, 1710, 0)
		gaps, nine := impl.GapYears(list, 1)
		longest, years, ten := impl.LongestMaker(list)
		if one || two || three || four || five || six || seven || eight || nine || ten {
			t.Errorf("%s: %v, %v, %v, %v, %v, %v, %v, %v, %v, %v", name, one, two, three, four, five, six, seven, eight, nine, ten)
		}
		if len(line)+len(active)+len(founders)+len(families)+len(ended) != 0 || keeper != 0 || common != 0 || same != 0 || gaps != 0 || longest != 0 || years != 0 {
			t.Errorf("%s: %v, %d, %v, %v, %d, %d, %v, %v, %d, %d, %d", name, line, keeper, active, founders, common, same, families, ended, gaps, longest, years)
		}
	}
}

// TestInvalidMakersAreNotMended ends Makers so that the fault, where it is their own, is gone.
func TestInvalidMakersAreNotMended(t *testing.T) {
	for name, list := range invalidMakers() {
		for id, year := range map[int]int{1: 1710, 2: 1730, 3: 1755} {
			for _, heir := range []int{0, 2, 3} {
				if ended, ok := impl.EndMaker(list, id, year, heir); ok || len(ended) != 0 {
					t.Errorf("%s: the Maker %d ends: %v, %v", name, id, ended, ok)
				}
			}
		}
	}
}

func TestUnknownMakersFail(t *testing.T) {
	for _, list := range [][]impl.Maker{nil, {}, houses(), lineOfAll(10, true), {{Id: 99, Name: "a", From: 1500, Until: 2100}}} {
		for _, id := range []int{smallest, -2, -1, 0, 1, 2, 4, 7, 11, 39, 98, 99, 100, 1 << 32, 1<<32 + 2, largest} {
			known := slices.ContainsFunc(list, func(m impl.Maker) bool { return m.Id == id })
			line, one := impl.LineOf(list, id)
			keeper, two := impl.KeeperIn(list, id, 2100)
			common, three := impl.FirstCommon(list, id, id)
			gaps, four := impl.GapYears(list, id)
			if one != known || two != known || three != known || four != known || len(line) > 0 != known || keeper > 0 != known || common > 0 != known || !known && gaps != 0 {
				t.Errorf("%d of %v: %v, %v; %d, %v; %d, %v; %d, %v", id, list, line, one, keeper, two, common, three, gaps, four)
			}
			for _, m := range list {
				there, five := impl.FirstCommon(list, id, m.Id)
				back, six := impl.FirstCommon(list, m.Id, id)
				if !known && (five || six || there != 0 || back != 0) {
					t.Errorf("%d and %d: %d, %v; %d, %v", id, m.Id, there, five, back, six)
				}
			}
			if ended, ok := impl.EndMaker(list, id, 1500, 0); !known && (ok || len(ended) != 0) {
				t.Errorf("the Maker %d ends: %v, %v", id, ended, ok)
			}
		}
	}
}

func TestNoMakers(t *testing.T) {
	for _, list := range [][]impl.Maker{nil, {}} {
		active, one := impl.ActiveIn(list, 1700)
		founders, two := impl.FounderIds(list)
		families, three := impl.Families(list)
		if !one || !two || !three || len(active)+len(founders)+len(families) != 0 {
			t.Errorf("%v, %v; %v, %v; %v, %v", active, one, founders, two, families, three)
		}
		if id, years, ok := impl.LongestMaker(list); ok || id != 0 || years != 0 {
			t.Errorf("the longest of nobody: %d, %d, %v", id, years, ok)
		}
	}
}

func TestYearsThatAreNone(t *testing.T) {
	list := append(houses()[:5:5], impl.Maker{Id: 50, Name: "all", From: 1500, Until: 2100}, houses()[5])
	for _, year := range []int{smallest, -1, 0, 1, 1499, 1500, 2100, 2101, 1 << 32, 1<<32 + 1700, largest} {
		want := year == 1500 || year == 2100
		active, one := impl.ActiveIn(list, year)
		none, two := impl.ActiveIn(nil, year)
		keeper, three := impl.KeeperIn(list, 50, year)
		if one != want || two != want || three != want || len(active) > 0 != want || len(none) != 0 || keeper == 50 != want || !want && keeper != 0 {
			t.Errorf("the year %d: %v, %v; %v, %v; %d, %v", year, active, one, none, two, keeper, three)
		}
	}
}

func TestLineOfKnown(t *testing.T) {
	for id, want := range map[int][]int{2: {2, 7, 40, 99}, 3: {3, 40, 99}, 7: {7, 40, 99}, 40: {40, 99}, 41: {41}, 99: {99}} {
		if line, ok := impl.LineOf(houses(), id); !ok || !slices.Equal(line, want) {
			t.Errorf("the line of %d: %v, %v", id, line, ok)
		}
	}
	all := idsFrom(1, 10)
	back := idsFrom(1, 10)
	slices.Reverse(back)
	for i := range 10 {
		one, first := impl.LineOf(lineOfAll(10, false), i+1)
		two, second := impl.LineOf(lineOfAll(10, true), 10-i)
		three, third := impl.LineOf(aloneMakers(10), i+1)
		if !first || !second || !third || !slices.Equal(one, all[i:]) || !slices.Equal(two, back[i:]) || !slices.Equal(three, []int{i + 1}) {
			t.Errorf("%v, %v, %v", one, two, three)
		}
	}
}

func TestKeeperInKnown(t *testing.T) {
	list := houses()
	for _, c := range []struct{ id, year, want int }{
		{2, 1500, 0}, {2, 1599, 0}, {2, 1600, 2}, {2, 1601, 2}, {2, 1619, 2}, {2, 1620, 7}, {2, 1621, 7}, {2, 1630, 7}, {2, 1631, 7}, {2, 1640, 7},
		{2, 1649, 7}, {2, 1650, 40}, {2, 1695, 40}, {2, 1696, 40}, {2, 1699, 40}, {2, 1700, 99}, {2, 2100, 99},
		{3, 1594, 0}, {3, 1595, 3}, {3, 1640, 3}, {3, 1649, 3}, {3, 1650, 40}, {7, 1619, 0}, {7, 1620, 7}, {40, 1649, 0}, {40, 1650, 40},
		{41, 1500, 41}, {41, 1501, 41}, {41, 1700, 41}, {41, 2100, 41}, {99, 1500, 0}, {99, 1699, 0}, {99, 1700, 99}, {99, 2100, 99},
	} {
		if keeper, ok := impl.KeeperIn(list, c.id, c.year); ok != (c.want != 0) || keeper != c.want {
			t.Errorf("the keeper after %d in %d: %d, %v", c.id, c.year, keeper, ok)
		}
	}
}

func TestActiveInKnown(t *testing.T) {
	list := houses()
	for year, want := range map[int][]int{
		1500: {41}, 1501: {}, 1594: {}, 1595: {3}, 1599: {3}, 1600: {2, 3}, 1619: {2, 3}, 1620: {3, 7}, 1621: {3, 7}, 1630: {3, 7}, 1631: {3},
		1640: {3}, 1641: {}, 1649: {}, 1650: {40}, 1695: {40}, 1696: {}, 1699: {}, 1700: {99}, 2099: {99}, 2100: {99},
	} {
		if active, ok := impl.ActiveIn(list, year); !ok || !slices.Equal(active, want) {
			t.Errorf("active in %d: %v, %v", year, active, ok)
		}
	}
	if active, ok := impl.ActiveIn(aloneMakers(10), 1750); !ok || !slices.Equal(active, idsFrom(1, 10)) {
		t.Errorf("all ten: %v, %v", active, ok)
	}
}

// TestMakersYearByYear goes from Heir to Heir, and from year to year.
func TestMakersYearByYear(t *testing.T) {
	for _, list := range manyMakers() {
		for year := 1500; year <= 1580; year++ {
			if active, ok := impl.ActiveIn(list, year); !ok || !slices.Equal(active, workIn(list, year)) {
				t.Errorf("active in %d of %v: %v, %v", year, list, active, ok)
			}
		}
		for _, m := range list {
			line := lineByHand(list, m.Id)
			checkLine(t, list, line)
			keeper := 0
			for year := 1500; year <= 1580; year++ {
				for _, x := range line {
					if x.From == year {
						keeper = x.Id
					}
				}
				if id, ok := impl.KeeperIn(list, m.Id, year); ok != (keeper != 0) || id != keeper {
					t.Errorf("the keeper after %d in %d of %v: %d, %v", m.Id, year, list, id, ok)
				}
			}
		}
	}
}

// checkLine checks the line and the years in which nobody of it works.
func checkLine(t *testing.T, list, line []impl.Maker) {
	t.Helper()
	all := idsOfMakers(line, func(impl.Maker) bool { return true })
	first, last := line[0], line[len(line)-1]
	if ids, ok := impl.LineOf(list, first.Id); !ok || !slices.Equal(ids, all) {
		t.Errorf("the line of %d of %v: %v, %v", first.Id, list, ids, ok)
	}
	years := 0
	for year := first.From + 1; year < last.Until; year++ {
		if len(workIn(line, year)) == 0 {
			years++
		}
	}
	if n, ok := impl.GapYears(list, first.Id); !ok || n != years {
		t.Errorf("the gaps behind %d of %v: %d, %v, not %d", first.Id, list, n, ok, years)
	}
}

func TestFounderIdsKnown(t *testing.T) {
	for _, c := range []struct {
		name string
		list []impl.Maker
		want []int
	}{
		{"houses", houses(), []int{2, 3, 41}},
		{"all alone", aloneMakers(10), idsFrom(1, 10)},
		{"one", aloneMakers(1), []int{1}},
		{"a line", lineOfAll(10, false), []int{1}},
		{"a line backwards", lineOfAll(10, true), []int{10}},
		{"the same Heir", makersOf([3]int{1500, 1600, 2}, [3]int{1701, 1701, 0}, [3]int{1500, 1700, 2}), []int{1, 3}},
	} {
		if founders, ok := impl.FounderIds(c.list); !ok || !slices.Equal(founders, c.want) {
			t.Errorf("%s: %v, %v", c.name, founders, ok)
		}
	}
}

func TestFounderIdsAreNobodysHeir(t *testing.T) {
	for _, list := range manyMakers() {
		heirs := map[int]bool{}
		for _, m := range list {
			heirs[m.Heir] = true
		}
		want := idsOfMakers(list, func(m impl.Maker) bool { return !heirs[m.Id] })
		if founders, ok := impl.FounderIds(list); !ok || !slices.Equal(founders, want) {
			t.Errorf("%v: %v, %v", list, founders, ok)
		}
	}
}

func TestFirstCommonKnown(t *testing.T) {
	list := houses()
	for _, c := range []struct{ a, b, want int }{
		{2, 2, 2}, {41, 41, 41}, {99, 99, 99}, // with themselves
		{2, 7, 7}, {7, 2, 7}, {2, 99, 99}, {99, 2, 99}, {40, 3, 40}, {3, 40, 40}, {40, 99, 99}, // of one line
		{2, 3, 40}, {3, 2, 40}, {7, 3, 40}, {3, 7, 40}, // lines that meet
		{2, 41, 0}, {41, 2, 0}, {99, 41, 0}, {41, 99, 0}, {40, 41, 0}, // lines that do not
	} {
		if id, ok := impl.FirstCommon(list, c.a, c.b); ok != (c.want != 0) || id != c.want {
			t.Errorf("%d and %d: %d, %v", c.a, c.b, id, ok)
		}
	}
	for i := range 10 {
		for j := range 10 {
			one, first := impl.FirstCommon(lineOfAll(10, false), i+1, j+1)
			two, second := impl.FirstCommon(lineOfAll(10, true), i+1, j+1)
			three, third := impl.FirstCommon(aloneMakers(10), i+1, j+1)
			if !first || !second || one != max(i, j)+1 || two != min(i, j)+1 || third != (i == j) || third && three != i+1 || !third && three != 0 {
				t.Errorf("%d and %d: %d, %v; %d, %v; %d, %v", i+1, j+1, one, first, two, second, three, third)
			}
		}
	}
}

func sameFamilies(a, b [][]int) bool {
	return slices.EqualFunc(a, b, func(x, y []int) bool { return slices.Equal(x, y) })
}

func TestFamiliesKnown(t *testing.T) {
	alone := [][]int{}
	for id := range 10 {
		alone = append(alone, []int{id + 1})
	}
	for _, c := range []struct {
		name string
		list []impl.Maker
		want [][]int
	}{
		{"houses", houses(), [][]int{{2, 3, 7, 40, 99}, {41}}},
		{"as many as Makers", aloneMakers(10), alone},
		{"one Maker", aloneMakers(1), alone[:1]},
		{"a line", lineOfAll(10, false), [][]int{idsFrom(1, 10)}},
		{"a line backwards", lineOfAll(10, true), [][]int{idsFrom(1, 10)}},
		{"the last ones are turned", makersOf([3]int{1500, 1510, 4}, [3]int{1500, 1510, 3}, [3]int{1520, 1530, 0}, [3]int{1520, 1530, 0}), [][]int{{1, 4}, {2, 3}}},
		{"the last ones first", makersOf([3]int{1520, 1530, 0}, [3]int{1520, 1530, 0}, [3]int{1500, 1510, 2}, [3]int{1500, 1510, 1}), [][]int{{1, 4}, {2, 3}}},
		{"a later one leads to the first", makersOf([3]int{1520, 1530, 0}, [3]int{1500, 1510, 0}, [3]int{1500, 1510, 1}), [][]int{{1, 3}, {2}}},
		{"two lines meet in the end", makersOf([3]int{1500, 1510, 4}, [3]int{1500, 1510, 3}, [3]int{1520, 1530, 4}, [3]int{1540, 1550, 0}), [][]int{{1, 2, 3, 4}}},
	} {
		if families, ok := impl.Families(c.list); !ok || !sameFamilies(families, c.want) {
			t.Errorf("%s: %v, %v", c.name, families, ok)
		}
	}
}

// TestCommonOnesAndFamilies checks promise 7, and both sides of it by hand.
func TestCommonOnesAndFamilies(t *testing.T) {
	together, apart := 0, 0
	for _, list := range manyMakers() {
		families, ok := impl.Families(list)
		want := [][]int{}
		for _, m := range list {
			if family := familyByHand(list, m.Id); family[0] == m.Id {
				want = append(want, family)
			}
		}
		if !ok || !sameFamilies(families, want) {
			t.Errorf("%v: %v, %v, not %v", list, families, ok, want)
		}
		for _, a := range list {
			for _, b := range list {
				common := checkCommon(t, list, a.Id, b.Id)
				one := slices.ContainsFunc(families, func(f []int) bool { return slices.Contains(f, a.Id) && slices.Contains(f, b.Id) })
				if common != one {
					t.Errorf("%d and %d of %v: a common one %v, one family %v", a.Id, b.Id, list, common, one)
				}
				if one {
					together++
				} else {
					apart++
				}
			}
		}
	}
	if together < 1000 || apart < 1000 {
		t.Errorf("%d pairs of one family, %d of two", together, apart)
	}
}

func checkCommon(t *testing.T, list []impl.Maker, a, b int) bool {
	t.Helper()
	want := 0
	for _, m := range lineByHand(list, a) {
		if want == 0 && slices.Contains(lineByHand(list, b), m) {
			want = m.Id
		}
	}
	id, ok := impl.FirstCommon(list, a, b)
	if ok != (want != 0) || id != want {
		t.Errorf("%d and %d of %v: %d, %v, not %d", a, b, list, id, ok, want)
	}
	return ok
}

func TestEndMakerKnown(t *testing.T) {
	for _, c := range []struct {
		name           string
		id, year, heir int
		want           bool
	}{
		{"as before", 2, 1619, 7, true},
		{"in the year From", 2, 1600, 7, true},
		{"in the year From, without an Heir", 2, 1600, 0, true},
		{"in the year Until, without an Heir", 2, 1619, 0, true},
		{"between", 2, 1610, 7, true},
		{"before From", 2, 1599, 7, false},
		{"before From, without an Heir", 2, 1599, 0, false},
		{"after Until", 2, 1620, 7, false},
		{"after Until, before the Heir begins", 40, 1696, 99, false},
		{"after Until, without an Heir", 2, 1620, 0, false},
		{"another Heir", 2, 1619, 99, true},
		{"the Heir begins in the year", 3, 1620, 7, false},
		{"the Heir begins just after the year", 3, 1619, 7, true},
		{"the Heir begins before", 3, 1630, 2, false},
		{"an Heir who was too early begins just after", 3, 1599, 2, true},
		{"an Heir who begins in the same year", 3, 1600, 2, false},
		{"an Heir who began with them", 40, 1650, 3, false},
		{"their own Heir", 2, 1610, 2, false},
		{"an Heir who is not there", 2, 1610, 8, false},
		{"an Heir of 100", 2, 1610, 100, false},
		{"an Heir of -1", 2, 1610, -1, false},
		{"one with one year only", 41, 1500, 0, true},
		{"one with one year only, an Heir", 41, 1500, 3, true},
		{"one with one year only, the year before", 41, 1499, 0, false},
		{"one with one year only, the year after", 41, 1501, 0, false},
		{"the last one", 99, 2100, 0, true},
		{"the last one earlier", 99, 1700, 0, true},
		{"the last one with an Heir", 99, 1700, 41, false},
		{"the year 2101", 99, 2101, 0, false},
		{"the smallest year", 99, smallest, 0, false},
		{"the greatest year", 99, largest, 0, false},
		{"the greatest Heir", 2, 1610, largest, false},
		{"the smallest Heir", 2, 1610, smallest, false},
	} {
		checkEnd(t, c.name, houses(), impl.Maker{Id: c.id, Until: c.year, Heir: c.heir}, c.want)
	}
}

// checkEnd ends the Maker with the Id of end, with the Until and the Heir of it.
func checkEnd(t *testing.T, name string, list []impl.Maker, end impl.Maker, want bool) {
	t.Helper()
	ended, ok := impl.EndMaker(list, end.Id, end.Until, end.Heir)
	expected := []impl.Maker{}
	if want {
		expected = slices.Clone(list)
		at := slices.Index(expected, makerOf(list, end.Id))
		expected[at].Until, expected[at].Heir = end.Until, end.Heir
	}
	if ok != want || !slices.Equal(ended, expected) {
		t.Errorf("%s: %v, %v", name, ended, ok)
	}
	if ok && !impl.AreMakers(ended) {
		t.Errorf("%s: no Makers: %v", name, ended)
	}
}

func TestEndMakerOfManyMakers(t *testing.T) {
	done := 0
	for _, list := range manyMakers()[6:] {
		for _, m := range list {
			for _, year := range []int{m.From - 1, m.From, (m.From + m.Until) / 2, m.Until - 1, m.Until, m.Until + 1} {
				for _, heir := range append(idsOfMakers(list, func(impl.Maker) bool { return true }), 0, 100) {
					want := year >= m.From && year <= m.Until && (heir == 0 || heir != 100 && makerOf(list, heir).From > year)
					checkEnd(t, "many", list, impl.Maker{Id: m.Id, Until: year, Heir: heir}, want)
					if want {
						done++
					}
				}
			}
		}
	}
	if done < 1000 {
		t.Errorf("%d Makers ended", done)
	}
}

func TestGapYearsKnown(t *testing.T) {
	for _, c := range []struct {
		name string
		list []impl.Maker
		want int
	}{
		{"a line of one", makersOf([3]int{1500, 2100, 0}), 0},
		{"a line of one year", makersOf([3]int{1700, 1700, 0}), 0},
		{"none between", makersOf([3]int{1700, 1750, 2}, [3]int{1751, 1800, 0}), 0},
		{"one year between", makersOf([3]int{1700, 1750, 2}, [3]int{1752, 1800, 0}), 1},
		{"nine years between", makersOf([3]int{1700, 1750, 2}, [3]int{1760, 1800, 0}), 9},
		{"single years", makersOf([3]int{1700, 1700, 2}, [3]int{1702, 1702, 0}), 1},
		{"the most years", makersOf([3]int{1500, 1500, 2}, [3]int{2100, 2100, 0}), 599},
		{"several", makersOf([3]int{1700, 1710, 2}, [3]int{1713, 1720, 3}, [3]int{1721, 1730, 4}, [3]int{1741, 1750, 0}), 12},
		{"one who is not of the line works between", makersOf([3]int{1700, 1710, 3}, [3]int{1711, 1719, 0}, [3]int{1720, 1730, 0}), 9},
		{"one who leads to the line works between", makersOf([3]int{1700, 1710, 3}, [3]int{1711, 1719, 3}, [3]int{1720, 1730, 0}), 9},
		{"ten", lineOfAll(10, false), 18},
	} {
		if years, ok := impl.GapYears(c.list, 1); !ok || years != c.want {
			t.Errorf("%s: %d, %v", c.name, years, ok)
		}
	}
	for id, want := range map[int]int{2: 19 + 4, 3: 9 + 4, 7: 19 + 4, 40: 4, 41: 0, 99: 0} {
		if years, ok := impl.GapYears(houses(), id); !ok || years != want {
			t.Errorf("behind %d: %d, %v", id, years, ok)
		}
	}
	if years, ok := impl.GapYears(lineOfAll(10, true), 10); !ok || years != 18 {
		t.Errorf("ten backwards: %d, %v", years, ok)
	}
}

func TestLongestMakerKnown(t *testing.T) {
	for _, c := range []struct {
		name      string
		list      []impl.Maker
		id, years int
	}{
		{"houses", houses(), 99, 401},
		{"both years count", makersOf([3]int{1600, 1619, 0}, [3]int{1595, 1640, 0}), 2, 46},
		{"one year", makersOf([3]int{1500, 1500, 0}), 1, 1},
		{"all years", makersOf([3]int{1500, 1500, 0}, [3]int{1500, 2100, 0}), 2, 601},
		{"the first one", makersOf([3]int{1500, 1510, 0}, [3]int{1505, 1514, 0}), 1, 11},
		{"equally long", makersOf([3]int{1500, 1500, 0}, [3]int{1600, 1619, 0}, [3]int{1550, 1569, 0}, [3]int{2000, 2018, 0}, [3]int{2081, 2100, 0}), 2, 20},
		{"all equally long", aloneMakers(10), 1, 51},
	} {
		if id, years, ok := impl.LongestMaker(c.list); !ok || id != c.id || years != c.years {
			t.Errorf("%s: %d, %d, %v", c.name, id, years, ok)
		}
	}
}

func TestLongestMakerCountsYears(t *testing.T) {
	for _, list := range manyMakers()[2:] {
		id, most := 0, 0
		for _, m := range list {
			years := 0
			for year := 1500; year <= 2100; year++ {
				years += len(workIn([]impl.Maker{m}, year))
			}
			if years > most {
				id, most = m.Id, years
			}
		}
		if longest, years, ok := impl.LongestMaker(list); ok != (len(list) > 0) || longest != id || years != most {
			t.Errorf("%v: %d, %d, %v", list, longest, years, ok)
		}
	}
}

func TestMakerTextKnown(t *testing.T) {
	for want, m := range map[string]impl.Maker{
		"1 atlas 1700-1750 >2":       {Id: 1, Name: "atlas", From: 1700, Until: 1750, Heir: 2},
		"1 atlas 1700-1750":          {Id: 1, Name: "atlas", From: 1700, Until: 1750},
		"99 abcdefghij 1500-2100 >1": {Id: 99, Name: "abcdefghij", From: 1500, Until: 2100, Heir: 1},
		"98 z 2100-2100 >99":         {Id: 98, Name: "z", From: 2100, Until: 2100, Heir: 99},
		"10 a 1500-1500":             {Id: 10, Name: "a", From: 1500, Until: 1500},
	} {
		if text, ok := impl.MakerText(m); !ok || text != want {
			t.Errorf("%+v: %q, %v", m, text, ok)
		}
	}
	for _, list := range manyMakers() {
		for _, m := range list {
			want := strconv.Itoa(m.Id) + " " + m.Name + " " + strconv.Itoa(m.From) + "-" + strconv.Itoa(m.Until)
			if m.Heir > 0 {
				want += " >" + strconv.Itoa(m.Heir)
			}
			if text, ok := impl.MakerText(m); !ok || text != want {
				t.Errorf("%+v: %q, %v", m, text, ok)
			}
		}
	}
}

// callMakerFunctions calls each function of the chapter.
func callMakerFunctions(list []impl.Maker) {
	impl.AreMakers(list)
	impl.FounderIds(list)
	impl.Families(list)
	impl.LongestMaker(list)
	for _, n := range []int{smallest, -7, 0, 1, 2, 3, 40, 99, 1500, 1725, 2100, largest} {
		impl.LineOf(list, n)
		impl.ActiveIn(list, n)
		impl.GapYears(list, n)
		for _, k := range []int{smallest, 0, 1, 2, 7, 99, 1500, 1600, 1725, 2100, largest} {
			impl.KeeperIn(list, n, k)
			impl.FirstCommon(list, n, k)
			impl.EndMaker(list, n, k, 0)
			impl.EndMaker(list, n, 1600, k)
		}
	}
	for _, m := range list[:min(len(list), 20)] {
		impl.IsMaker(m)
		impl.MakerText(m)
		impl.EndMaker(list, m.Id, m.From, m.Heir)
	}
}

func TestMakerFunctionsLeaveTheListAlone(t *testing.T) {
	lists := slices.AppendSeq(manyMakers(), maps.Values(invalidMakers()))
	lists = append(lists, []impl.Maker{{Id: smallest, Name: "\xff", From: largest, Until: smallest, Heir: largest}, {Id: largest, From: smallest, Until: largest, Heir: smallest}})
	behind := []impl.Maker{{Id: 1, Name: "-", From: 1500, Until: 1501, Heir: -7}, {Id: -7, Name: "-", Heir: 1}}
	for _, list := range lists {
		guard := append(slices.Clone(list), behind...)
		callMakerFunctions(guard[:len(list)])
		if !slices.Equal(guard[:len(list)], list) || !slices.Equal(guard[len(list):], behind) {
			t.Fatalf("%v has become %v", list, guard)
		}
	}
}

// TestMakersBehindTheListAreNotThere cuts off an Heir, and then one whose Heir is in the list.
func TestMakersBehindTheListAreNotThere(t *testing.T) {
	list := makersOf([3]int{1700, 1720, 2}, [3]int{1721, 1740, 0})
	if !impl.AreMakers(list) || impl.AreMakers(list[:1]) {
		t.Error("an Heir behind the list counts")
	}
	list = makersOf([3]int{1721, 1740, 0}, [3]int{1700, 1720, 1})
	founders, one := impl.FounderIds(list[:1])
	families, two := impl.Families(list[:1])
	if !one || !two || !slices.Equal(founders, []int{1}) || !sameFamilies(families, [][]int{{1}}) {
		t.Errorf("%v, %v; %v, %v", founders, one, families, two)
	}
}

// TestMakerResultsOwnTheirMemory spoils each result and asks again.
func TestMakerResultsOwnTheirMemory(t *testing.T) {
	list := houses()
	for range 2 {
		line, one := impl.LineOf(list, 2)
		active, two := impl.ActiveIn(list, 1610)
		founders, three := impl.FounderIds(list)
		families, four := impl.Families(list)
		ended, five := impl.EndMaker(list, 2, 1610, 0)
		if !one || !two || !three || !four || !five || !slices.Equal(list, houses()) || !slices.Equal(line, []int{2, 7, 40, 99}) ||
			!slices.Equal(active, []int{2, 3}) || !slices.Equal(founders, []int{2, 3, 41}) || len(ended) != 6 {
			t.Fatalf("%v, %v, %v, %v, %v", line, active, founders, families, ended)
		}
		for i, family := range families {
			if !slices.Equal(family, [][]int{{2, 3, 7, 40, 99}, {41}}[i]) {
				t.Fatalf("the family %d: %v", i, families)
			}
			clear(family[:cap(family)])
		}
		clear(families[:cap(families)])
		clear(line[:cap(line)])
		clear(active[:cap(active)])
		clear(founders[:cap(founders)])
		clear(ended[:cap(ended)])
	}
}

// TestMakerNamesOwnTheirMemory looks at addresses, because texts cannot be changed to show that
// they share memory.
func TestMakerNamesOwnTheirMemory(t *testing.T) {
	list := houses()
	ended, ok := impl.EndMaker(list, 2, 1610, 0)
	if !ok {
		t.Fatal("nobody ends")
	}
	for i, m := range ended {
		if areWithin(m.Name, list[i].Name) {
			t.Errorf("the Name %q is that of the argument", m.Name)
		}
	}
}
