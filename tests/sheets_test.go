package tests

import (
	"slices"
	"strconv"
	"strings"
	"testing"

	"loop.example/g01060/impl"
)

const largest = 1<<63 - 1
const smallest = -largest - 1

// seriesOf numbers the Sheets that stand at these places, each a Row, a Col and a Scale, from 1.
func seriesOf(places ...[3]int) []impl.Sheet {
	list := []impl.Sheet{}
	for i, p := range places {
		list = append(list, impl.Sheet{Id: i + 1, Row: p[0], Col: p[1], Scale: p[2], Year: 1900 + i})
	}
	return list
}

// fullGrid returns rows times cols Sheets of the Scale 50.
func fullGrid(rows, cols int) []impl.Sheet {
	places := [][3]int{}
	for row := range rows {
		for col := range cols {
			places = append(places, [3]int{row, col, 50})
		}
	}
	return seriesOf(places...)
}

// invalidSeries returns lists that are no Sheets. The Sheet with the Id 1 and the place 2, 3 of
// the Scale 50 are in each of them.
func invalidSeries() [][]impl.Sheet {
	good := impl.Sheet{Id: 1, Row: 2, Col: 3, Scale: 50, Year: 1900}
	next := impl.Sheet{Id: 2, Row: 2, Col: 4, Scale: 50, Year: 1900}
	place, id, year, scale := good, next, next, next
	place.Id = 5
	id.Id = 1
	year.Year = 2101
	scale.Scale = 501
	return [][]impl.Sheet{
		{good, place}, {good, next, place}, {good, id}, {next, good}, {good, next, next}, {good, year}, {good, scale},
		{{}, good}, {good, {}}, append(fullGrid(3, 4), impl.Sheet{Id: 13, Row: 50, Col: 50, Scale: 50, Year: 1900}),
		slices.Repeat([]impl.Sheet{good}, 1000),
	}
}

func TestIsSheetLimits(t *testing.T) {
	for _, c := range []struct {
		name      string
		low, high int
		set       func(s *impl.Sheet, n int)
	}{
		{"Id", 1, 999, func(s *impl.Sheet, n int) { s.Id = n }},
		{"Row", 0, impl.MaxGrid, func(s *impl.Sheet, n int) { s.Row = n }},
		{"Col", 0, impl.MaxGrid, func(s *impl.Sheet, n int) { s.Col = n }},
		{"Scale", 10, 500, func(s *impl.Sheet, n int) { s.Scale = n }},
		{"Year", 1500, 2100, func(s *impl.Sheet, n int) { s.Year = n }},
	} {
		for _, n := range []int{smallest, -1, 0, 1, c.low - 1, c.low, c.low + 1, c.high - 1, c.high, c.high + 1, 1 << 32, largest} {
			s := impl.Sheet{Id: 12, Row: 3, Col: 4, Scale: 50, Year: 1987}
			c.set(&s, n)
			want := n >= c.low && n <= c.high
			if impl.IsSheet(s) != want || impl.AreSheets([]impl.Sheet{s}) != want {
				t.Errorf("a Sheet with the %s %d: %v, not %v", c.name, n, !want, want)
			}
			if text, ok := impl.SheetText(s); ok != want || !want && text != "" {
				t.Errorf("SheetText with the %s %d = %q, %v", c.name, n, text, ok)
			}
			if num, den, ok := impl.OnPaper(s, 1000); ok != want || !want && (num != 0 || den != 0) {
				t.Errorf("OnPaper with the %s %d = %d, %d, %v", c.name, n, num, den, ok)
			}
		}
	}
	if impl.IsSheet(impl.Sheet{}) {
		t.Error("the zero Sheet is valid")
	}
}

func TestAreSheetsAccepts(t *testing.T) {
	for i, list := range [][]impl.Sheet{
		nil, {}, fullGrid(1, 1), fullGrid(3, impl.MaxSheets/3), fullGrid(1, impl.MaxSheets),
		seriesOf([3]int{2, 3, 50}, [3]int{2, 3, 51}, [3]int{2, 4, 50}, [3]int{3, 3, 50}, [3]int{3, 2, 50}),
		{{Id: 1, Scale: 10, Year: 1500}, {Id: 999, Row: 99, Col: 99, Scale: 500, Year: 2100}},
	} {
		if !impl.AreSheets(list) {
			t.Errorf("list %d is rejected: %v", i, list)
		}
	}
}

func TestAreSheetsRejects(t *testing.T) {
	for i, list := range invalidSeries() {
		if impl.AreSheets(list) {
			t.Errorf("list %d is accepted: %v", i, list)
		}
	}
	for i := 1; i < impl.MaxSheets; i++ {
		list := fullGrid(1, impl.MaxSheets)
		list[i].Col = 0
		if impl.AreSheets(list) {
			t.Errorf("the Sheets 0 and %d have the same place", i)
		}
		list = fullGrid(1, impl.MaxSheets)
		list[i].Id = list[i-1].Id
		if impl.AreSheets(list) {
			t.Errorf("the Sheets %d and %d have the same Id", i-1, i)
		}
	}
}

// TestInvalidSeriesFailEverywhere asks for a Sheet that an invalid list seems to have.
func TestInvalidSeriesFailEverywhere(t *testing.T) {
	for i, list := range invalidSeries() {
		if id, ok := impl.SheetAt(list, 2, 3, 50); ok || id != 0 {
			t.Errorf("list %d: SheetAt = %d, %v", i, id, ok)
		}
		if ids, ok := impl.NeighborsOf(list, 1); ok || len(ids) != 0 {
			t.Errorf("list %d: NeighborsOf = %v, %v", i, ids, ok)
		}
		if places, ok := impl.MissingSheets(list, 50); ok || len(places) != 0 {
			t.Errorf("list %d: MissingSheets = %v, %v", i, places, ok)
		}
		if ids, ok := impl.LongestStrip(list, 50); ok || len(ids) != 0 {
			t.Errorf("list %d: LongestStrip = %v, %v", i, ids, ok)
		}
		if ids, ok := impl.ShowsOverview(list, 1); ok || len(ids) != 0 {
			t.Errorf("list %d: ShowsOverview = %v, %v", i, ids, ok)
		}
	}
}

func TestUnknownIdsAndScalesFail(t *testing.T) {
	for _, list := range [][]impl.Sheet{nil, fullGrid(2, 2), seriesOf([3]int{0, 0, 10}, [3]int{99, 99, 500})} {
		for _, id := range []int{smallest, -1, 0, len(list) + 1, 999, 1000, largest} {
			if ids, ok := impl.NeighborsOf(list, id); ok || len(ids) != 0 {
				t.Errorf("NeighborsOf %d = %v, %v", id, ids, ok)
			}
			if ids, ok := impl.ShowsOverview(list, id); ok || len(ids) != 0 {
				t.Errorf("ShowsOverview %d = %v, %v", id, ids, ok)
			}
		}
		for _, scale := range []int{smallest, -50, 0, 9, 49, 51, 501, 50 + 1<<32, largest} {
			if places, ok := impl.MissingSheets(list, scale); ok || len(places) != 0 {
				t.Errorf("MissingSheets of the Scale %d = %v, %v", scale, places, ok)
			}
			if ids, ok := impl.LongestStrip(list, scale); ok || len(ids) != 0 {
				t.Errorf("LongestStrip of the Scale %d = %v, %v", scale, ids, ok)
			}
		}
	}
}

func TestSheetAtEachPlace(t *testing.T) {
	list := seriesOf([3]int{2, 3, 50}, [3]int{3, 2, 50}, [3]int{2, 3, 100}, [3]int{0, 99, 10}, [3]int{99, 0, 500})
	for _, s := range list {
		if id, ok := impl.SheetAt(list, s.Row, s.Col, s.Scale); !ok || id != s.Id {
			t.Errorf("SheetAt(%d, %d, %d) = %d, %v", s.Row, s.Col, s.Scale, id, ok)
		}
	}
	for _, p := range [][3]int{
		{2, 2, 50}, {3, 3, 50}, {2, 3, 51}, {2, 3, 49}, {3, 2, 100}, {99, 0, 10}, {0, 99, 500}, {0, 0, 10}, {-1, 99, 10},
		{100, 0, 500}, {99, -1, 500}, {2, 3, 0}, {2, 3, 501}, {2 + 1<<32, 3, 50}, {smallest, largest, 50}, {0, 0, 0},
	} {
		if id, ok := impl.SheetAt(list, p[0], p[1], p[2]); ok || id != 0 {
			t.Errorf("SheetAt(%v) = %d, %v", p, id, ok)
		}
		if id, ok := impl.SheetAt(nil, p[0], p[1], p[2]); ok || id != 0 {
			t.Errorf("SheetAt(%v) of no Sheets = %d, %v", p, id, ok)
		}
	}
}

func TestNeighborsByDistance(t *testing.T) {
	for _, at := range []int{0, 1, 2, 50, 97, 98, 99} {
		for _, row := range []int{at - 99, at - 2, at - 1, at, at + 1, at + 2, at + 99} {
			for _, col := range []int{at - 2, at - 1, at, at + 1, at + 2} {
				list := seriesOf([3]int{at, at, 50}, [3]int{row, col, 50})
				if !impl.AreSheets(list) {
					continue
				}
				near := row >= at-1 && row <= at+1 && col >= at-1 && col <= at+1
				checkNeighbors(t, list, 1, near, 2)
				checkNeighbors(t, list, 2, near, 1)
				list[1].Row, list[1].Col = col, row
				checkNeighbors(t, list, 1, near, 2)
				checkNeighbors(t, list, 2, near, 1)
			}
		}
	}
}

func checkNeighbors(t *testing.T, list []impl.Sheet, id int, near bool, want int) {
	ids, ok := impl.NeighborsOf(list, id)
	if !ok || near != slices.Equal(ids, []int{want}) || !near && len(ids) != 0 {
		t.Errorf("neighbors of %d in %v: %v, %v", id, list, ids, ok)
	}
}

func TestNeighborsKnown(t *testing.T) {
	list := fullGrid(3, 4)
	for id, want := range map[int][]int{
		1: {2, 5, 6}, 2: {1, 3, 5, 6, 7}, 4: {3, 7, 8}, 6: {1, 2, 3, 5, 7, 9, 10, 11}, 8: {3, 4, 7, 11, 12}, 12: {7, 8, 11},
	} {
		if ids, ok := impl.NeighborsOf(list, id); !ok || !slices.Equal(ids, want) {
			t.Errorf("neighbors of %d: %v, %v", id, ids, ok)
		}
	}
	// The order of the Ids is not that of the places.
	list = seriesOf([3]int{9, 9, 50}, [3]int{8, 8, 50}, [3]int{10, 10, 50}, [3]int{9, 8, 50}, [3]int{8, 9, 100}, [3]int{9, 9, 100})
	if ids, ok := impl.NeighborsOf(list, 1); !ok || !slices.Equal(ids, []int{2, 3, 4}) {
		t.Errorf("neighbors of 1: %v, %v", ids, ok)
	}
	if ids, ok := impl.NeighborsOf(list, 3); !ok || !slices.Equal(ids, []int{1}) {
		t.Errorf("neighbors of 3: %v, %v", ids, ok)
	}
	if ids, ok := impl.NeighborsOf(list, 6); !ok || !slices.Equal(ids, []int{5}) {
		t.Errorf("neighbors of 6: %v, %v", ids, ok)
	}
	if ids, ok := impl.NeighborsOf(fullGrid(1, 1), 1); !ok || len(ids) != 0 {
		t.Errorf("neighbors of the only Sheet: %v, %v", ids, ok)
	}
}

// manySeries returns valid lists of up to MaxSheets Sheets, most of them crowded, of two Scales.
func manySeries() [][]impl.Sheet {
	lists := [][]impl.Sheet{fullGrid(3, 4), fullGrid(12, 1)}
	n := 1
	for len(lists) < 400 {
		list := []impl.Sheet{}
		size := len(lists) % (impl.MaxSheets + 1)
		for id := 1; len(list) < size && id < 999; id += 1 + n%7 {
			n = (n*1103 + 12345) % 1000003
			s := impl.Sheet{Id: id, Row: 95 + n%5, Col: n / 5 % 6, Scale: 50 + n/30%2*50, Year: 1900}
			list = append(list, s)
			if !impl.AreSheets(list) {
				list = list[:len(list)-1]
			}
		}
		lists = append(lists, list)
	}
	return lists
}

// TestNeighborsAreMutual is promise 2.
func TestNeighborsAreMutual(t *testing.T) {
	found := 0
	for _, list := range manySeries() {
		neighbors := map[int][]int{}
		for _, s := range list {
			ids, ok := impl.NeighborsOf(list, s.Id)
			if !ok || !slices.IsSorted(ids) {
				t.Fatalf("neighbors of %d in %v: %v, %v", s.Id, list, ids, ok)
			}
			neighbors[s.Id] = ids
		}
		for _, a := range list {
			for _, b := range list {
				is := slices.Contains(neighbors[a.Id], b.Id)
				row, col := a.Row-b.Row, a.Col-b.Col
				if is != (a != b && a.Scale == b.Scale && row*row <= 1 && col*col <= 1) {
					t.Errorf("in %v, %d is a neighbor of %d: %v", list, b.Id, a.Id, is)
				}
				if is != slices.Contains(neighbors[b.Id], a.Id) {
					t.Errorf("in %v, only one of %d and %d is a neighbor of the other", list, a.Id, b.Id)
				}
				if is {
					found++
				}
			}
		}
	}
	if found == 0 {
		t.Error("no neighbors were tried")
	}
}

func TestMissingSheetsKnown(t *testing.T) {
	list := seriesOf([3]int{5, 7, 50}, [3]int{4, 9, 50}, [3]int{0, 0, 100}, [3]int{5, 8, 100}, [3]int{4, 8, 25})
	for scale, want := range map[int][][2]int{
		50: {{4, 7}, {4, 8}, {5, 8}, {5, 9}}, 25: {},
	} {
		if places, ok := impl.MissingSheets(list, scale); !ok || !slices.Equal(places, want) {
			t.Errorf("missing of the Scale %d: %v, %v", scale, places, ok)
		}
	}
	if places, ok := impl.MissingSheets(list, 100); !ok || len(places) != 52 || places[0] != [2]int{0, 1} || places[51] != [2]int{5, 7} {
		t.Errorf("missing of the Scale 100: %v, %v", places, ok)
	}
	if places, ok := impl.MissingSheets(fullGrid(3, 4), 50); !ok || len(places) != 0 {
		t.Errorf("nothing is missing in a full grid: %v, %v", places, ok)
	}
}

func TestMissingSheetsLimit(t *testing.T) {
	for _, c := range []struct {
		row, col int // of the corner opposite to 0, 0: with these two Sheets, all others are missing
		fits     bool
	}{
		{5, 66, true}, {66, 5, true}, {12, 30, false}, {30, 12, false}, {99, 99, false}, {0, 99, true}, {99, 0, true},
		{3, 99, true}, {4, 79, true}, {4, 80, false}, {99, 4, false},
	} {
		list := seriesOf([3]int{0, 0, 10}, [3]int{c.row, c.col, 10}, [3]int{99, 99, 20})
		want := 0
		if c.fits {
			want = (c.row+1)*(c.col+1) - 2
		}
		if places, ok := impl.MissingSheets(list, 10); ok != c.fits || len(places) != want {
			t.Errorf("up to %d, %d, %d are missing, %v", c.row, c.col, len(places), ok)
		}
	}
	// 401 places are missing, then another Sheet stands at one of them.
	list := seriesOf([3]int{0, 0, 10}, [3]int{12, 30, 10})
	if places, ok := impl.MissingSheets(list, 10); ok || len(places) != 0 {
		t.Errorf("%d are missing, %v", len(places), ok)
	}
	list = append(list, impl.Sheet{Id: 3, Row: 6, Col: 6, Scale: 10, Year: 1900})
	if places, ok := impl.MissingSheets(list, 10); !ok || len(places) != 400 {
		t.Errorf("%d are missing, %v", len(places), ok)
	}
}

func TestMissingSheetsAndSheetsFillTheGrid(t *testing.T) {
	for _, list := range manySeries() {
		for _, scale := range []int{50, 100} {
			places, ok := impl.MissingSheets(list, scale)
			low, high, count := [2]int{99, 99}, [2]int{0, 0}, 0
			for _, s := range list {
				if s.Scale == scale {
					count++
					low = [2]int{min(low[0], s.Row), min(low[1], s.Col)}
					high = [2]int{max(high[0], s.Row), max(high[1], s.Col)}
				}
			}
			if ok != (count > 0) {
				t.Fatalf("missing of the Scale %d in %v: %v, %v", scale, list, places, ok)
			}
			want := [][2]int{}
			for row := low[0]; row <= high[0]; row++ {
				for col := low[1]; col <= high[1]; col++ {
					if _, ok := impl.SheetAt(list, row, col, scale); !ok {
						want = append(want, [2]int{row, col})
					}
				}
			}
			if !slices.Equal(places, want) {
				t.Errorf("missing of the Scale %d in %v: %v, not %v", scale, list, places, want)
			}
		}
	}
}

func TestLongestStripKnown(t *testing.T) {
	for i, c := range []struct {
		places [][3]int
		want   []int
	}{
		{[][3]int{{99, 99, 50}}, []int{1}},
		{[][3]int{{4, 1, 50}, {3, 9, 50}, {3, 1, 50}}, []int{3}},
		{[][3]int{{3, 4, 50}, {3, 3, 50}, {3, 2, 50}}, []int{3, 2, 1}},
		{[][3]int{{3, 1, 50}, {3, 3, 50}, {3, 4, 50}}, []int{2, 3}},
		{[][3]int{{3, 1, 50}, {3, 2, 100}, {3, 3, 50}, {3, 2, 25}}, []int{1}},
		{[][3]int{{8, 0, 50}, {8, 1, 50}, {2, 8, 50}, {2, 9, 50}}, []int{3, 4}},
		{[][3]int{{5, 8, 50}, {5, 9, 50}, {5, 1, 50}, {5, 2, 50}}, []int{3, 4}},
		{[][3]int{{1, 1, 50}, {1, 2, 50}, {7, 1, 50}, {7, 2, 50}, {7, 3, 50}}, []int{3, 4, 5}},
		{[][3]int{{2, 99, 50}, {3, 0, 50}, {3, 1, 50}}, []int{2, 3}},
		{[][3]int{{2, 3, 50}, {3, 4, 50}, {4, 5, 50}}, []int{1}},
		{[][3]int{{2, 3, 50}, {3, 3, 50}, {4, 3, 50}}, []int{1}},
		{[][3]int{{3, 0, 100}, {3, 1, 100}, {3, 2, 100}, {9, 9, 50}}, []int{4}},
	} {
		if ids, ok := impl.LongestStrip(seriesOf(c.places...), 50); !ok || !slices.Equal(ids, c.want) {
			t.Errorf("series %d: %v, %v, not %v", i, ids, ok, c.want)
		}
	}
	if ids, ok := impl.LongestStrip(fullGrid(1, 12), 50); !ok || !slices.Equal(ids, []int{1, 2, 3, 4, 5, 6, 7, 8, 9, 10, 11, 12}) {
		t.Errorf("a Row of %d Sheets: %v, %v", impl.MaxSheets, ids, ok)
	}
	if ids, ok := impl.LongestStrip(fullGrid(3, 4), 50); !ok || !slices.Equal(ids, []int{1, 2, 3, 4}) {
		t.Errorf("three equal strips: %v, %v", ids, ok)
	}
}

// TestLongestStripAgainstEachBeginning follows the strip from each place, in order.
func TestLongestStripAgainstEachBeginning(t *testing.T) {
	for _, list := range manySeries() {
		want := []int{}
		for place := range 10000 {
			ids := []int{}
			for col := place % 100; ; col++ {
				id, ok := impl.SheetAt(list, place/100, col, 50)
				if !ok {
					break
				}
				ids = append(ids, id)
			}
			if len(ids) > len(want) {
				want = ids
			}
		}
		if ids, ok := impl.LongestStrip(list, 50); ok != (len(want) > 0) || !slices.Equal(ids, want) {
			t.Errorf("strip in %v: %v, %v, not %v", list, ids, ok, want)
		}
	}
}

func TestOnPaperIsMetersPerScale(t *testing.T) {
	meters := []int{1, 2, 3, 7, 10, 49, 75, 100, 499, 500, 7500, 65536, 99991, 999999, 1000000}
	for scale := 10; scale <= 500; scale++ {
		s := impl.Sheet{Id: 1, Scale: scale, Year: 1900}
		for _, m := range append(meters, scale, 17*scale, scale+1) {
			num, den, ok := impl.OnPaper(s, m)
			if !ok || den < 1 || num*scale != m*den {
				t.Fatalf("%d meters on 1:%d000: %d, %d, %v", m, scale, num, den, ok)
			}
			for d := 2; d <= den; d++ {
				if num%d == 0 && den%d == 0 {
					t.Fatalf("%d meters on 1:%d000: %d and %d are not in lowest terms", m, scale, num, den)
				}
			}
		}
	}
}

func TestOnPaperKnownAndLimits(t *testing.T) {
	for _, c := range []struct{ scale, meters, num, den int }{
		{50, 7500, 150, 1}, {50, 75, 3, 2}, {500, 1, 1, 500}, {10, 1, 1, 10}, {10, 1000000, 100000, 1}, {500, 1000000, 2000, 1},
		{499, 1000000, 1000000, 499}, {50, 0, 0, 0}, {50, -1, 0, 0}, {50, 1000001, 0, 0}, {50, smallest, 0, 0}, {50, largest, 0, 0},
		{9, 90, 0, 0}, {501, 501, 0, 0}, {0, 1, 0, 0}, {-50, -50, 0, 0},
	} {
		s := impl.Sheet{Id: 1, Row: 99, Col: 99, Scale: c.scale, Year: 1500}
		if num, den, ok := impl.OnPaper(s, c.meters); ok != (c.den > 0) || num != c.num || den != c.den {
			t.Errorf("%d meters on 1:%d000: %d, %d, %v", c.meters, c.scale, num, den, ok)
		}
	}
}

// TestShowsOverviewAtItsEdges moves a Sheet of the Scale 10 over an overview of the Scale 50 that
// begins at 100, 150 and ends before 150, 200.
func TestShowsOverviewAtItsEdges(t *testing.T) {
	for row := 8; row <= 17; row++ {
		for col := 13; col <= 22; col++ {
			list := seriesOf([3]int{row, col, 10}, [3]int{2, 3, 50})
			want := []int{}
			if row >= 10 && row <= 14 && col >= 15 && col <= 19 {
				want = append(want, 2)
			}
			if ids, ok := impl.ShowsOverview(list, 1); !ok || !slices.Equal(ids, want) {
				t.Errorf("overviews of the Sheet at %d, %d: %v, %v", row, col, ids, ok)
			}
			if ids, ok := impl.ShowsOverview(list, 2); !ok || len(ids) != 0 {
				t.Errorf("overviews of the greatest Scale: %v, %v", ids, ok)
			}
		}
	}
}

func TestShowsOverviewKnown(t *testing.T) {
	for i, c := range []struct {
		places [][3]int
		want   []int
	}{
		// Only the beginning counts: these Sheets reach beyond their overviews.
		{[][3]int{{3, 3, 24}, {2, 2, 25}, {1, 1, 71}, {1, 1, 72}, {1, 1, 73}}, []int{2, 3, 4}},
		// Neither an equal nor a smaller Scale makes an overview.
		{[][3]int{{0, 0, 50}, {0, 1, 50}, {0, 0, 49}, {0, 0, 10}, {0, 0, 51}}, []int{5}},
		// In order of the Ids, not of the Scales.
		{[][3]int{{5, 5, 10}, {0, 0, 500}, {1, 1, 50}, {0, 0, 100}, {2, 2, 20}, {2, 2, 25}}, []int{2, 3, 4, 5, 6}},
		// The beginning is one less than the end of an overview, and then at its end.
		{[][3]int{{9, 9, 11}, {0, 0, 100}, {0, 0, 99}, {1, 1, 99}}, []int{2, 4}},
		{[][3]int{{99, 99, 499}, {99, 99, 500}, {98, 98, 500}, {98, 99, 500}, {99, 98, 500}}, []int{3}},
		{[][3]int{{99, 0, 100}, {0, 99, 500}, {19, 0, 500}, {20, 0, 500}, {0, 0, 500}}, []int{3}},
	} {
		if ids, ok := impl.ShowsOverview(seriesOf(c.places...), 1); !ok || !slices.Equal(ids, c.want) {
			t.Errorf("series %d: %v, %v, not %v", i, ids, ok, c.want)
		}
	}
}

func TestSheetTextKnown(t *testing.T) {
	for want, s := range map[string]impl.Sheet{
		"12: r3 c4 1:50000 1987":     {Id: 12, Row: 3, Col: 4, Scale: 50, Year: 1987},
		"1: r0 c0 1:10000 1500":      {Id: 1, Scale: 10, Year: 1500},
		"999: r99 c99 1:500000 2100": {Id: 999, Row: 99, Col: 99, Scale: 500, Year: 2100},
		"7: r10 c0 1:100000 2000":    {Id: 7, Row: 10, Col: 0, Scale: 100, Year: 2000},
	} {
		if text, ok := impl.SheetText(s); !ok || text != want {
			t.Errorf("SheetText(%v) = %q, %v", s, text, ok)
		}
		if back, ok := impl.ParseSheet(want); !ok || back != s {
			t.Errorf("ParseSheet(%q) = %v, %v", want, back, ok)
		}
	}
}

func TestSheetTextRoundTrip(t *testing.T) {
	for n := range 3000 {
		s := impl.Sheet{Id: 1 + n%999, Row: n % 100, Col: n * 7 % 100, Scale: 10 + n%491, Year: 1500 + n%601}
		text, ok := impl.SheetText(s)
		want := strings.NewReplacer("I", strconv.Itoa(s.Id), "R", strconv.Itoa(s.Row), "C", strconv.Itoa(s.Col),
			"S", strconv.Itoa(s.Scale), "Y", strconv.Itoa(s.Year)).Replace("I: rR cC 1:S000 Y")
		if !ok || text != want {
			t.Fatalf("SheetText(%v) = %q, %v", s, text, ok)
		}
		if back, ok := impl.ParseSheet(text); !ok || back != s {
			t.Fatalf("ParseSheet(%q) = %v, %v", text, back, ok)
		}
	}
}

func TestParseSheetRejects(t *testing.T) {
	for _, s := range []string{
		"", " ", "12", ": r c 1:000 ", "12: r3 c4", "12: r3 c4 1:50000", "12: r3 c4 1:50000 ", ": r3 c4 1:50000 1987",
		"12: r c4 1:50000 1987", "12: r3 c 1:50000 1987", "12: r3 c4 1:000 1987", "12: r3 c4 1:50 1987", "12: r3 c4 1:50001 1987",
		"12: r3 c4 1:5000 1987", "12: r3 c4 1:9000 1987", "12: r3 c4 1:501000 1987", "12: r3 c4 1:50000000 1987",
		"0: r3 c4 1:50000 1987", "1000: r3 c4 1:50000 1987", "-12: r3 c4 1:50000 1987", "+12: r3 c4 1:50000 1987",
		"012: r3 c4 1:50000 1987", "12: r03 c4 1:50000 1987", "12: r3 c04 1:50000 1987", "12: r3 c4 1:050000 1987",
		"12: r3 c4 1:50000 01987", "12: r100 c4 1:50000 1987", "12: r3 c100 1:50000 1987", "12: r-1 c4 1:50000 1987",
		"12: r3 c-1 1:50000 1987", "12: r-0 c4 1:50000 1987", "12: r3 c4 1:50000 1499", "12: r3 c4 1:50000 2101",
		"12: r3 c4 1:50000 1987 ", " 12: r3 c4 1:50000 1987", "12: r3 c4 1:50000 1987\n", "12: r3 c4 1:50000 1987000 ",
		"12 : r3 c4 1:50000 1987", "12: r3  c4 1:50000 1987", "12: c4 r3 1:50000 1987", "12: R3 C4 1:50000 1987",
		"12: r3 c4 1:50000 1987 1:50000 1987", "12: r3: r3 c4 1:50000 1987", "12: r3 c4 2:50000 1987", "12: r3, c4 1:50000 1987",
		"18446744073709551628: r3 c4 1:50000 1987", "12: r3 c4 1:50000 18446744073709553603", "١٢: r3 c4 1:50000 1987",
		"\x0012: r3 c4 1:50000 1987", "12: r3 c4 1:50000 1987\xff",
		strings.Repeat("1", impl.MaxString+1), strings.Repeat("12: r3 c4 1:50000 1987", 1000), strings.Repeat(": r", 10000),
	} {
		if x, ok := impl.ParseSheet(s); ok || x != (impl.Sheet{}) {
			t.Errorf("ParseSheet(%q) = %v, %v", s, x, ok)
		}
	}
}

// TestParseSheetChangedTexts changes, drops and doubles each byte: what is still accepted must be
// the text of the Sheet that is returned.
func TestParseSheetChangedTexts(t *testing.T) {
	for _, s := range []string{"12: r3 c4 1:50000 1987", "1: r0 c0 1:10000 1500", "999: r99 c99 1:500000 2100"} {
		for i := range len(s) {
			checkParsed(t, s[:i])
			checkParsed(t, s[i:])
			checkParsed(t, s[:i]+s[i+1:])
			checkParsed(t, s[:i+1]+s[i:])
			for c := range 256 {
				checkParsed(t, s[:i]+string([]byte{byte(c)})+s[i+1:])
				checkParsed(t, s[:i]+string([]byte{byte(c)})+s[i:])
			}
		}
	}
}

func checkParsed(t *testing.T, s string) {
	x, ok := impl.ParseSheet(s)
	if !ok && x != (impl.Sheet{}) {
		t.Errorf("ParseSheet(%q) fails with %v", s, x)
	}
	if text, valid := impl.SheetText(x); ok && (!valid || text != s) {
		t.Errorf("ParseSheet(%q) = %v, whose text is %q, %v", s, x, text, valid)
	}
}

// callSheetFunctions calls each function of the chapter that takes a list.
func callSheetFunctions(list []impl.Sheet) {
	impl.AreSheets(list)
	for _, n := range []int{smallest, 0, 1, 2, 10, 50, 100, 500, largest} {
		impl.SheetAt(list, n, n, 50)
		impl.NeighborsOf(list, n)
		impl.MissingSheets(list, n)
		impl.LongestStrip(list, n)
		impl.ShowsOverview(list, n)
	}
}

func TestSheetFunctionsLeaveTheListAlone(t *testing.T) {
	lists := append(manySeries(), invalidSeries()...)
	lists = append(lists, seriesOf([3]int{9, 9, 50}, [3]int{8, 8, 50}, [3]int{9, 8, 50}, [3]int{0, 0, 500}))
	lists = append(lists, []impl.Sheet{{Id: smallest, Row: largest, Col: smallest, Scale: largest, Year: smallest}})
	for _, list := range lists {
		beyond := impl.Sheet{Id: -7, Row: -7, Col: -7, Scale: -7, Year: -7}
		array := append(slices.Clone(list), beyond, beyond)
		before := slices.Clone(array)
		callSheetFunctions(array[:len(list)])
		if !slices.Equal(array, before) {
			t.Fatalf("the list was changed from %v to %v", before, array)
		}
	}
}

func TestSheetResultsAreIndependent(t *testing.T) {
	list := fullGrid(3, 4)
	list[5].Scale = 500
	for range 2 {
		neighbors, _ := impl.NeighborsOf(list, 1)
		missing, _ := impl.MissingSheets(list, 50)
		strip, _ := impl.LongestStrip(list, 50)
		overviews, _ := impl.ShowsOverview(list[5:7], 7)
		if !slices.Equal(neighbors, []int{2, 5}) || !slices.Equal(missing, [][2]int{{1, 1}}) || !slices.Equal(strip, []int{1, 2, 3, 4}) || len(overviews) != 0 {
			t.Fatalf("%v, %v, %v, %v", neighbors, missing, strip, overviews)
		}
		neighbors[0], missing[0][0], strip[0] = -1, -1, -1
	}
}
