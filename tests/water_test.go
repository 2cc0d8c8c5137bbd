package tests

import (
	"slices"
	"strconv"
	"testing"

	"loop.example/g01060/impl"
)

// copyRelief copies all rows as well.
func copyRelief(r [][]int) [][]int {
	rows := [][]int{}
	for _, row := range r {
		rows = append(rows, slices.Clone(row))
	}
	return rows
}

func sameRelief(a, b [][]int) bool {
	return slices.EqualFunc(a, b, func(x, y []int) bool { return slices.Equal(x, y) })
}

// evenRelief has the same height everywhere.
func evenRelief(rows, cols, height int) [][]int {
	r := [][]int{}
	for range rows {
		r = append(r, slices.Repeat([]int{height}, cols))
	}
	return r
}

// turnedRelief has the rows as columns.
func turnedRelief(r [][]int) [][]int {
	turned := evenRelief(len(r[0]), len(r), 0)
	for row := range r {
		for col, h := range r[row] {
			turned[col][row] = h
		}
	}
	return turned
}

// canyon has the height 9999 everywhere but on a path of squares, which goes down to 0 in equal
// steps. Water runs all along a path that does not touch itself.
func canyon(path [][2]int, step int) [][]int {
	r := evenRelief(8, 8, 9999)
	for i, at := range path {
		r[at[0]][at[1]] = step * (len(path) - 1 - i)
	}
	return r
}

// pathThrough goes straight from each corner to the next one.
func pathThrough(corners ...[2]int) [][2]int {
	path := corners[:1:1]
	for _, corner := range corners[1:] {
		for at := path[len(path)-1]; at != corner; path = append(path, at) {
			at[0] += max(-1, min(1, corner[0]-at[0]))
			at[1] += max(-1, min(1, corner[1]-at[1]))
		}
	}
	return path
}

// longPaths run all over a relief of 8 by 8, and back again.
func longPaths() map[string][][2]int {
	paths := map[string][][2]int{
		"a serpent":     pathThrough([2]int{0, 0}, [2]int{0, 7}, [2]int{2, 7}, [2]int{2, 0}, [2]int{4, 0}, [2]int{4, 7}, [2]int{6, 7}, [2]int{6, 0}, [2]int{7, 0}),
		"a spiral":      pathThrough([2]int{0, 0}, [2]int{0, 7}, [2]int{7, 7}, [2]int{7, 0}, [2]int{2, 0}, [2]int{2, 5}, [2]int{5, 5}, [2]int{5, 2}, [2]int{4, 2}),
		"straight on":   pathThrough([2]int{3, 0}, [2]int{3, 7}),
		"down and back": pathThrough([2]int{0, 1}, [2]int{7, 1}, [2]int{7, 3}, [2]int{0, 3}, [2]int{0, 5}, [2]int{7, 5}, [2]int{7, 7}, [2]int{0, 7}),
	}
	for _, name := range []string{"a serpent", "a spiral", "straight on", "down and back"} {
		back := slices.Clone(paths[name])
		slices.Reverse(back)
		paths[name+", from its end"] = back
	}
	return paths
}

// manyReliefs has all sizes, with few heights, so that many neighbors are equal, and with many.
func manyReliefs() [][][]int {
	reliefs := [][][]int{}
	next := numbersFrom(31)
	for rows := 1; rows <= 8; rows++ {
		for cols := 1; cols <= 8; cols++ {
			for _, most := range []int{1, 2, 4, 9, 60, 9999, 9999} {
				low := []int{0, 9999 - most}[next(0, 1)]
				r := evenRelief(rows, cols, 0)
				for row := range rows {
					for col := range cols {
						r[row][col] = low + next(0, most)
					}
				}
				reliefs = append(reliefs, r)
			}
		}
	}
	for _, path := range longPaths() {
		reliefs = append(reliefs, canyon(path, 1))
	}
	return append(reliefs, lakeland(), evenRelief(8, 8, 5), slope(8, 8))
}

// slope has a run from its first square all along its last column, or its last row.
func slope(rows, cols int) [][]int {
	r := evenRelief(rows, cols, 0)
	for row := range rows {
		for col := range cols {
			r[row][col] = rows + cols - 2 - row - col
		}
	}
	return r
}

// lakeland has a basin inside of a higher basin, one that runs over only round a corner, two of
// which only the corners touch, and one at the edge, which is none.
func lakeland() [][]int {
	return [][]int{
		{90, 90, 90, 90, 90, 90, 90, 90},
		{90, 30, 30, 30, 90, 20, 40, 90},
		{90, 30, 10, 30, 90, 90, 35, 90},
		{90, 30, 50, 30, 90, 90, 33, 32},
		{90, 80, 30, 80, 90, 90, 90, 90},
		{90, 90, 60, 90, 5, 90, 90, 90},
		{90, 70, 61, 90, 90, 6, 7, 8},
		{90, 90, 62, 90, 1, 90, 90, 90},
	}
}

// filledLakeland is the same, filled by hand.
func filledLakeland() [][]int {
	return [][]int{
		{90, 90, 90, 90, 90, 90, 90, 90},
		{90, 62, 62, 62, 90, 40, 40, 90},
		{90, 62, 62, 62, 90, 90, 35, 90},
		{90, 62, 62, 62, 90, 90, 33, 32},
		{90, 80, 62, 80, 90, 90, 90, 90},
		{90, 90, 62, 90, 90, 90, 90, 90},
		{90, 70, 62, 90, 90, 8, 8, 8},
		{90, 90, 62, 90, 1, 90, 90, 90},
	}
}

// eachSmallRelief calls see with every relief of the size that has only heights of 0..most.
func eachSmallRelief(rows, cols, most int, see func(r [][]int)) {
	r := evenRelief(rows, cols, 0)
	for {
		see(r)
		at := 0
		for at < rows*cols && r[at/cols][at%cols] == most {
			r[at/cols][at%cols] = 0
			at++
		}
		if at == rows*cols {
			return
		}
		r[at/cols][at%cols]++
	}
}

// invalidReliefs returns lists that are none. Most of them have the square 0, 0.
func invalidReliefs() map[string][][]int {
	reliefs := map[string][][]int{
		"no rows":            {},
		"no list":            nil,
		"one row of none":    {{}},
		"a row that is nil":  {nil},
		"rows of length 0":   {{}, {}, {}},
		"eight rows of none": make([][]int, 8),
		"nine rows":          evenRelief(9, 8, 5),
		"nine rows of one":   evenRelief(9, 1, 5),
		"nine rows of none":  make([][]int, 9),
		"nine columns":       evenRelief(8, 9, 5),
		"nine in one row":    evenRelief(1, 9, 5),
		"nine by nine":       evenRelief(9, 9, 5),
		"very many rows":     evenRelief(100000, 1, 5),
		"a very long row":    evenRelief(1, 100000, 5),
		"a long second row":  {{1, 2}, make([]int, 100000)},
		"longer and longer":  {{1}, {1, 2}, {1, 2, 3}},
		"shorter, shorter":   {{1, 2, 3}, {1, 2}, {1}},
		"an empty first row": {{}, {1}},
		"an empty last row":  {{1}, {}},
	}
	for _, h := range []int{smallest, -1 << 32, -10000, -1, 10000, 10001, 1 << 32, 1<<32 + 5, largest} {
		r := slope(3, 4)
		r[1][2] = h
		reliefs["a height of "+strconv.Itoa(h)] = r
		reliefs["one square, a height of "+strconv.Itoa(h)] = [][]int{{h}}
	}
	return reliefs
}

// besideByHand returns the neighbors in the order that breaks ties.
func besideByHand(r [][]int, row, col int) [][2]int {
	beside := [][2]int{}
	if row > 0 {
		beside = append(beside, [2]int{row - 1, col})
	}
	if col < len(r[0])-1 {
		beside = append(beside, [2]int{row, col + 1})
	}
	if row < len(r)-1 {
		beside = append(beside, [2]int{row + 1, col})
	}
	if col > 0 {
		beside = append(beside, [2]int{row, col - 1})
	}
	return beside
}

// runByHand sorts the neighbors of each square by their heights.
func runByHand(r [][]int, row, col int) [][2]int {
	run := [][2]int{{row, col}}
	for {
		beside := besideByHand(r, row, col)
		slices.SortStableFunc(beside, func(a, b [2]int) int { return r[a[0]][a[1]] - r[b[0]][b[1]] })
		if len(beside) == 0 || r[beside[0][0]][beside[0][1]] >= r[row][col] {
			return run
		}
		row, col = beside[0][0], beside[0][1]
		run = append(run, beside[0])
	}
}

// levelByHand raises a level until one comes from the square to the edge over squares not higher.
func levelByHand(r [][]int, row, col int) int {
	levels := slices.Concat(r...)
	slices.Sort(levels)
	for _, level := range levels {
		if level >= r[row][col] && reachesEdge(r, [2]int{row, col}, level) {
			return level
		}
	}
	return -1
}

func reachesEdge(r [][]int, from [2]int, level int) bool {
	seen, open := map[[2]int]bool{from: true}, [][2]int{from}
	for len(open) > 0 {
		at := open[0]
		open = open[1:]
		if at[0] == 0 || at[1] == 0 || at[0] == len(r)-1 || at[1] == len(r[0])-1 {
			return true
		}
		for _, b := range besideByHand(r, at[0], at[1]) {
			if !seen[b] && r[b[0]][b[1]] <= level {
				seen[b], open = true, append(open, b)
			}
		}
	}
	return false
}

// handmade is all that the chapter tells about a relief, with the first square that has the most.
type handmade struct {
	runs       [][][][2]int
	catchments map[[2]int]int
	filled     [][]int
	pits       [][2]int
	river      [2]int
	lakes, sum int
	steepest   [2]int
	fall       int
}

func byHand(r [][]int) handmade {
	h := handmade{catchments: map[[2]int]int{}, filled: copyRelief(r)}
	for row := range r {
		h.runs = append(h.runs, nil)
		for col, height := range r[row] {
			run := runByHand(r, row, col)
			h.runs[row] = append(h.runs[row], run)
			for _, at := range run {
				h.catchments[at]++
			}
			if len(run) == 1 {
				h.pits = append(h.pits, run[0])
			} else if fall := height - r[run[1][0]][run[1][1]]; fall > h.fall {
				h.steepest, h.fall = run[0], fall
			}
			level := levelByHand(r, row, col)
			h.filled[row][col] = level
			if level > height {
				h.lakes, h.sum = h.lakes+1, h.sum+level-height
			}
		}
	}
	most := 0
	for row := range r {
		for col := range r[row] {
			if n := h.catchments[[2]int{row, col}]; n > most {
				h.river, most = [2]int{row, col}, n
			}
		}
	}
	return h
}

// checkRelief compares all functions, for all squares, with what is found by hand.
func checkRelief(t *testing.T, r [][]int) {
	t.Helper()
	if !impl.IsRelief(r) {
		t.Fatalf("%v is rejected", r)
	}
	h := byHand(r)
	pits, ok := impl.PitsOf(r)
	if !ok || !slices.Equal(pits, h.pits) {
		t.Errorf("%v: the pits %v, %v, not %v", r, pits, ok, h.pits)
	}
	filled, ok := impl.FilledRelief(r)
	if !ok || !sameRelief(filled, h.filled) {
		t.Errorf("%v: filled %v, %v, not %v", r, filled, ok, h.filled)
	}
	checkRiver(t, r, h.river)
	checkLakes(t, r, h.lakes, h.sum)
	checkSteepest(t, r, h.steepest, h.fall)
	for row := range r {
		for col := range r[row] {
			checkRun(t, r, h.runs[row][col])
			catchment, one := impl.Catchment(r, row, col)
			level, two := impl.LevelAt(r, row, col)
			if !one || catchment != h.catchments[[2]int{row, col}] || !two || level != h.filled[row][col] {
				t.Errorf("%v at %d, %d: the catchment %d, %v, not %d; the level %d, %v, not %d", r, row, col, catchment, one, h.catchments[[2]int{row, col}], level, two, h.filled[row][col])
			}
		}
	}
}

// checkRun checks where water runs from the first square of a run.
func checkRun(t *testing.T, r [][]int, want [][2]int) {
	t.Helper()
	row, col := want[0][0], want[0][1]
	if run, ok := impl.RunOff(r, row, col); !ok || !slices.Equal(run, want) {
		t.Errorf("%v: the run %v, %v, not %v", r, run, ok, want)
	}
	next := [2]int{}
	if len(want) > 1 {
		next = want[1]
	}
	if a, b, ok := impl.NextSquare(r, row, col); ok != (len(want) > 1) || [2]int{a, b} != next {
		t.Errorf("%v: from %d, %d to %d, %d, %v, not %v", r, row, col, a, b, ok, next)
	}
}

func checkRiver(t *testing.T, r [][]int, want [2]int) {
	t.Helper()
	if row, col, ok := impl.GreatestRiver(r); !ok || [2]int{row, col} != want {
		t.Errorf("%v: the river %d, %d, %v, not %v", r, row, col, ok, want)
	}
}

func checkLakes(t *testing.T, r [][]int, count, sum int) {
	t.Helper()
	if a, b, ok := impl.LakesOf(r); !ok || a != count || b != sum {
		t.Errorf("%v: lakes of %d, %d, %v, not %d, %d", r, a, b, ok, count, sum)
	}
}

// checkSteepest checks the steepest square, or with no fall that there is none.
func checkSteepest(t *testing.T, r [][]int, want [2]int, fall int) {
	t.Helper()
	if row, col, n, ok := impl.SteepestSquare(r); ok != (fall > 0) || [2]int{row, col} != want || n != fall {
		t.Errorf("%v: steepest %d, %d, %d, %v, not %v, %d", r, row, col, n, ok, want, fall)
	}
}

// checkFilled checks the levels one by one as well, and the lakes.
func checkFilled(t *testing.T, name string, r, want [][]int) {
	t.Helper()
	if filled, ok := impl.FilledRelief(r); !ok || !sameRelief(filled, want) {
		t.Errorf("%s: filled %v, %v, not %v", name, filled, ok, want)
	}
	count, sum := 0, 0
	for row := range r {
		for col, h := range r[row] {
			if level, ok := impl.LevelAt(r, row, col); !ok || level != want[row][col] {
				t.Errorf("%s: the level at %d, %d is %d, %v, not %d", name, row, col, level, ok, want[row][col])
			}
			if want[row][col] > h {
				count, sum = count+1, sum+want[row][col]-h
			}
		}
	}
	checkLakes(t, r, count, sum)
}

// checkNoRelief checks that no function tells anything, whatever the square is.
func checkNoRelief(t *testing.T, name string, r [][]int) {
	t.Helper()
	pits, one := impl.PitsOf(r)
	riverRow, riverCol, two := impl.GreatestRiver(r)
	filled, three := impl.FilledRelief(r)
	count, sum, four := impl.LakesOf(r)
	row, col, fall, five := impl.SteepestSquare(r)
	if impl.IsRelief(r) || one || two || three || four || five || len(pits)+len(filled) != 0 || [7]int{riverRow, riverCol, count, sum, row, col, fall} != [7]int{} {
		t.Errorf("%s: %v, %v; %d, %d, %v; %v, %v; %d, %d, %v; %d, %d, %d, %v", name, pits, one, riverRow, riverCol, two, filled, three, count, sum, four, row, col, fall, five)
	}
	for _, at := range [][2]int{{0, 0}, {0, 1}, {1, 0}, {1, 2}, {7, 7}, {8, 8}, {-1, -1}, {largest, smallest}} {
		checkNoSquare(t, name, r, at[0], at[1])
	}
}

func checkNoSquare(t *testing.T, name string, r [][]int, row, col int) {
	t.Helper()
	a, b, one := impl.NextSquare(r, row, col)
	run, two := impl.RunOff(r, row, col)
	catchment, three := impl.Catchment(r, row, col)
	level, four := impl.LevelAt(r, row, col)
	if one || two || three || four || len(run) != 0 || [4]int{a, b, catchment, level} != [4]int{} {
		t.Errorf("%s at %d, %d: %d, %d, %v; %v, %v; %d, %v; %d, %v", name, row, col, a, b, one, run, two, catchment, three, level, four)
	}
}

func TestReliefSizes(t *testing.T) {
	if impl.MaxSquares != 8 {
		t.Errorf("%d squares", impl.MaxSquares)
	}
	for rows := range 11 {
		for cols := range 11 {
			r := evenRelief(rows, cols, 7)
			if rows >= 1 && rows <= 8 && cols >= 1 && cols <= 8 {
				checkRelief(t, r)
			} else {
				checkNoRelief(t, "a wrong size", r)
			}
		}
	}
}

func TestInvalidReliefs(t *testing.T) {
	for name, r := range invalidReliefs() {
		checkNoRelief(t, name, r)
	}
}

// TestOneRowOfAnotherLength makes each row of each size longer or shorter than the others.
func TestOneRowOfAnotherLength(t *testing.T) {
	for rows := 2; rows <= 8; rows++ {
		for cols := 1; cols <= 8; cols++ {
			for at := range rows {
				for _, length := range []int{0, cols - 1, cols + 1, 8, 9} {
					r := evenRelief(rows, cols, 7)
					r[at] = slices.Repeat([]int{7}, length)
					if impl.IsRelief(r) != (length == cols) {
						t.Errorf("%d rows of %d with one of %d at %d", rows, cols, length, at)
					}
				}
			}
		}
	}
	for at := range 4 {
		r := slope(4, 4)
		r[at] = r[at][:3]
		checkNoRelief(t, "a short row", r)
		r[at] = nil
		checkNoRelief(t, "a row that is nil", r)
		r[at] = make([]int, 5)
		checkNoRelief(t, "a long row", r)
	}
}

// TestReliefHeightLimits puts each height at each place, among others as well as alone.
func TestReliefHeightLimits(t *testing.T) {
	for _, h := range []int{smallest, -1 << 32, -10000, -9999, -1, 0, 1, 9998, 9999, 10000, 10001, 1 << 32, 1<<32 + 1, largest} {
		want := h >= 0 && h <= 9999
		if impl.IsRelief([][]int{{h}}) != want || impl.IsRelief(evenRelief(8, 8, h)) != want {
			t.Errorf("the height %d everywhere: %v", h, !want)
		}
		for at := range 64 {
			r := evenRelief(8, 8, 5000)
			r[at/8][at%8] = h
			if impl.IsRelief(r) != want {
				t.Errorf("the height %d at %d, %d: %v", h, at/8, at%8, !want)
			}
			if level, ok := impl.LevelAt(r, 0, 0); ok != want || !want && level != 0 {
				t.Errorf("the height %d at %d, %d: the level %d, %v", h, at/8, at%8, level, ok)
			}
		}
		for at := range 12 {
			r := slope(3, 4)
			r[at/4][at%4] = h
			if want {
				checkRelief(t, r)
			} else {
				checkNoRelief(t, "a height outside", r)
			}
		}
	}
}

func TestSquaresOutside(t *testing.T) {
	for rows := 1; rows <= 8; rows++ {
		for cols := 1; cols <= 8; cols++ {
			r := slope(rows, cols)
			for _, row := range []int{smallest, -rows, -1, 0, rows - 1, rows, 7, 8, 9, 1 << 32, largest} {
				for _, col := range []int{smallest, -cols, -1, 0, cols - 1, cols, 7, 8, 9, 1 << 32, largest} {
					if row < 0 || row >= rows || col < 0 || col >= cols {
						checkNoSquare(t, "outside", r, row, col)
						continue
					}
					checkRun(t, r, runByHand(r, row, col))
					if level, ok := impl.LevelAt(r, row, col); !ok || level != r[row][col] {
						t.Errorf("the level of a slope at %d, %d is %d, %v", row, col, level, ok)
					}
					if n, ok := impl.Catchment(r, row, col); !ok || n < 1 {
						t.Errorf("the catchment of a slope at %d, %d is %d, %v", row, col, n, ok)
					}
				}
			}
		}
	}
}

// TestNextSquareAmongEquals gives the same lowest height to all choices of neighbors.
func TestNextSquareAmongEquals(t *testing.T) {
	beside := [4][2]int{{0, 1}, {1, 2}, {2, 1}, {1, 0}}
	for choice := 1; choice < 16; choice++ {
		for _, others := range []int{8, 7, 6, 9999} {
			r := [][]int{{0, others, 0}, {others, 7, others}, {0, others, 0}}
			want := [2]int{-1, -1}
			for i, at := range beside {
				if choice>>i&1 == 1 {
					r[at[0]][at[1]] = 5
					if want[0] < 0 {
						want = at
					}
				}
			}
			if row, col, ok := impl.NextSquare(r, 1, 1); !ok || [2]int{row, col} != want {
				t.Errorf("%v: to %d, %d, %v, not %v", r, row, col, ok, want)
			}
			checkRelief(t, r)
		}
	}
}

// TestNextSquareAtCorners has four squares of which two are lower, and as low as one another.
func TestNextSquareAtCorners(t *testing.T) {
	for _, c := range []struct{ from, want [2]int }{
		{[2]int{0, 0}, [2]int{0, 1}}, // the east before the south
		{[2]int{0, 1}, [2]int{1, 1}}, // the south before the west
		{[2]int{1, 0}, [2]int{0, 0}}, // the north before the east
		{[2]int{1, 1}, [2]int{0, 1}}, // the north before the west
	} {
		r := evenRelief(2, 2, 3)
		r[c.from[0]][c.from[1]] = 4
		row, col, ok := impl.NextSquare(r, c.from[0], c.from[1])
		if !ok || [2]int{row, col} != c.want {
			t.Errorf("from %v to %d, %d, %v, not %v", c.from, row, col, ok, c.want)
		}
		checkRelief(t, r)
	}
}

// TestLowestNeighborBeatsTheFirst has neighbors in all orders of their heights.
func TestLowestNeighborBeatsTheFirst(t *testing.T) {
	beside := [4][2]int{{0, 1}, {1, 2}, {2, 1}, {1, 0}}
	for order := range 256 {
		heights := [4]int{order & 3, order >> 2 & 3, order >> 4 & 3, order >> 6}
		for _, middle := range []int{0, 1, 2, 3, 4} {
			r := [][]int{{0, heights[0], 0}, {heights[3], middle, heights[1]}, {0, heights[2], 0}}
			lowest := slices.Index(heights[:], slices.Min(heights[:]))
			row, col, ok := impl.NextSquare(r, 1, 1)
			if heights[lowest] >= middle {
				if ok || row != 0 || col != 0 {
					t.Errorf("%v: from a pit to %d, %d, %v", r, row, col, ok)
				}
			} else if !ok || [2]int{row, col} != beside[lowest] {
				t.Errorf("%v: to %d, %d, %v", r, row, col, ok)
			}
		}
	}
}

func TestEqualHeights(t *testing.T) {
	for rows := 1; rows <= 8; rows++ {
		for cols := 1; cols <= 8; cols++ {
			for _, h := range []int{0, 1, 9999} {
				r := evenRelief(rows, cols, h)
				checkFilled(t, "even", r, evenRelief(rows, cols, h))
				checkRiver(t, r, [2]int{0, 0})
				checkSteepest(t, r, [2]int{}, 0)
				pits, one := impl.PitsOf(r)
				run, two := impl.RunOff(r, rows-1, cols-1)
				n, three := impl.Catchment(r, rows-1, cols-1)
				if !one || len(pits) != rows*cols || !two || !slices.Equal(run, [][2]int{{rows - 1, cols - 1}}) || !three || n != 1 {
					t.Errorf("%d by %d of %d: %v, %v; %v, %v; %d, %v", rows, cols, h, pits, one, run, two, n, three)
				}
			}
		}
	}
}

// TestOneRowAndOneColumn has the same heights in a row and in a column.
func TestOneRowAndOneColumn(t *testing.T) {
	for _, c := range []struct {
		row  []int
		run  []int
		from int
		pits []int
	}{
		{[]int{5}, []int{0}, 0, []int{0}},
		{[]int{5, 4}, []int{0, 1}, 0, []int{1}},
		{[]int{4, 5}, []int{1, 0}, 1, []int{0}},
		{[]int{3, 5, 3}, []int{1, -1}, 1, []int{0, 2}},
		{[]int{3, 5, 2}, []int{1, 2}, 1, []int{0, 2}},
		{[]int{2, 5, 3}, []int{1, 0}, 1, []int{0, 2}},
		{[]int{7, 6, 5, 4, 3, 2, 1, 0}, []int{0, 1, 2, 3, 4, 5, 6, 7}, 0, []int{7}},
		{[]int{0, 1, 2, 3, 4, 5, 6, 7}, []int{7, 6, 5, 4, 3, 2, 1, 0}, 7, []int{0}},
		{[]int{9, 8, 8, 7, 6, 6, 6, 9}, []int{0, 1}, 0, []int{1, 4, 5, 6}},
	} {
		across, down := [][]int{c.row}, turnedRelief([][]int{c.row})
		alongRow, alongCol, pitsAcross, pitsDown := [][2]int{}, [][2]int{}, [][2]int{}, [][2]int{}
		for _, i := range c.run {
			if i < 0 { // of two equal ones, that to the east in a row and that to the north in a column
				alongRow, alongCol = append(alongRow, [2]int{0, c.from + 1}), append(alongCol, [2]int{c.from - 1, 0})
				continue
			}
			alongRow, alongCol = append(alongRow, [2]int{0, i}), append(alongCol, [2]int{i, 0})
		}
		for _, i := range c.pits {
			pitsAcross, pitsDown = append(pitsAcross, [2]int{0, i}), append(pitsDown, [2]int{i, 0})
		}
		checkRun(t, across, alongRow)
		checkRun(t, down, alongCol)
		one, first := impl.PitsOf(across)
		two, second := impl.PitsOf(down)
		if !first || !second || !slices.Equal(one, pitsAcross) || !slices.Equal(two, pitsDown) {
			t.Errorf("%v: the pits %v, %v and %v, %v", c.row, one, first, two, second)
		}
		checkFilled(t, "one row", across, across)
		checkFilled(t, "one column", down, down)
		checkRelief(t, across)
		checkRelief(t, down)
	}
}

// TestWaterRunsAllOver has, but for the straight ones, paths that are or come next to each square.
func TestWaterRunsAllOver(t *testing.T) {
	for name, path := range longPaths() {
		for _, step := range []int{1, 200} {
			r := canyon(path, step)
			for i := range path {
				checkRun(t, r, path[i:])
			}
			pit := path[len(path)-1]
			if n, ok := impl.Catchment(r, pit[0], pit[1]); name != "straight on" && name != "straight on, from its end" && (!ok || n != 64) {
				t.Errorf("%s: the catchment of its end is %d, %v", name, n, ok)
			}
			checkRiver(t, r, pit)
			checkRelief(t, r)
		}
	}
	if n := len(longPaths()["a spiral"]); n != 39 {
		t.Errorf("the spiral has %d squares", n)
	}
	run, ok := impl.RunOff(slope(8, 8), 0, 0)
	if want := pathThrough([2]int{0, 0}, [2]int{0, 7}, [2]int{7, 7}); !ok || !slices.Equal(run, want) {
		t.Errorf("a slope: %v, %v", run, ok)
	}
}

func TestPitsKnown(t *testing.T) {
	for _, c := range []struct {
		name string
		r    [][]int
		want [][2]int
	}{
		{"one square", [][]int{{0}}, [][2]int{{0, 0}}},
		{"one high square", [][]int{{9999}}, [][2]int{{0, 0}}},
		{"in the first corner", [][]int{{1, 2, 3}, {2, 3, 4}, {3, 4, 5}}, [][2]int{{0, 0}}},
		{"in the north-east", [][]int{{3, 2, 1}, {4, 3, 2}, {5, 4, 3}}, [][2]int{{0, 2}}},
		{"in the south-west", [][]int{{3, 4, 5}, {2, 3, 4}, {1, 2, 3}}, [][2]int{{2, 0}}},
		{"in the last corner", slope(3, 3), [][2]int{{2, 2}}},
		{"at the edge", [][]int{{3, 4, 5}, {2, 3, 4}, {3, 4, 5}}, [][2]int{{1, 0}}},
		{"inside", [][]int{{9, 8, 9}, {8, 7, 8}, {9, 8, 9}}, [][2]int{{1, 1}}},
		{"all corners", [][]int{{1, 2, 1}, {2, 3, 2}, {1, 2, 1}}, [][2]int{{0, 0}, {0, 2}, {2, 0}, {2, 2}}},
		{"the middle between equal ones", [][]int{{9, 7, 9}, {7, 7, 7}, {9, 7, 9}}, [][2]int{{0, 1}, {1, 0}, {1, 1}, {1, 2}, {2, 1}}},
		{"by rows and then by columns", [][]int{{5, 5, 0}, {0, 5, 5}, {5, 0, 5}}, [][2]int{{0, 2}, {1, 0}, {2, 1}}},
		{"lower only across a corner", [][]int{{0, 9, 0}, {9, 8, 9}, {0, 9, 0}}, [][2]int{{0, 0}, {0, 2}, {1, 1}, {2, 0}, {2, 2}}},
		{"as a board of chess", [][]int{{1, 0, 1}, {0, 1, 0}}, [][2]int{{0, 1}, {1, 0}, {1, 2}}},
	} {
		if pits, ok := impl.PitsOf(c.r); !ok || !slices.Equal(pits, c.want) {
			t.Errorf("%s: %v, %v", c.name, pits, ok)
		}
		checkRelief(t, c.r)
	}
}

func TestCatchmentsKnown(t *testing.T) {
	for _, c := range []struct {
		name  string
		r     [][]int
		want  [][]int
		river [2]int
	}{
		{"one square", [][]int{{7}}, [][]int{{1}}, [2]int{0, 0}},
		{"a fork", [][]int{{5, 3}, {4, 1}}, [][]int{{1, 2}, {1, 4}}, [2]int{1, 1}},
		{"down a row", [][]int{{3, 2, 1, 0}}, [][]int{{1, 2, 3, 4}}, [2]int{0, 3}},
		{"all to the middle", [][]int{{9, 8, 9}, {8, 7, 8}, {9, 8, 9}}, [][]int{{1, 2, 1}, {2, 9, 3}, {1, 1, 1}}, [2]int{1, 1}},
		{"both ways", [][]int{{0, 1, 1, 0}}, [][]int{{2, 1, 1, 2}}, [2]int{0, 0}},
		{"both ways in a column", [][]int{{0}, {1}, {1}, {0}}, [][]int{{2}, {1}, {1}, {2}}, [2]int{0, 0}},
		{"rows before columns", [][]int{{9, 1, 0}, {0, 1, 9}}, [][]int{{1, 1, 3}, {3, 1, 1}}, [2]int{0, 2}},
		{"only pits", evenRelief(3, 2, 4), evenRelief(3, 2, 1), [2]int{0, 0}},
		{"the greatest last", [][]int{{0, 5, 9, 4, 3, 2}}, [][]int{{2, 1, 1, 2, 3, 4}}, [2]int{0, 5}},
		{"the greatest not the lowest", [][]int{{0, 9, 9, 8, 6, 7}}, [][]int{{2, 1, 1, 2, 4, 1}}, [2]int{0, 4}},
	} {
		for row := range c.r {
			for col := range c.r[row] {
				if n, ok := impl.Catchment(c.r, row, col); !ok || n != c.want[row][col] {
					t.Errorf("%s at %d, %d: %d, %v", c.name, row, col, n, ok)
				}
			}
		}
		checkRiver(t, c.r, c.river)
	}
}

func TestLevelsKnown(t *testing.T) {
	checkFilled(t, "lakeland", lakeland(), filledLakeland())
	checkLakes(t, lakeland(), 16, 431)
	for _, c := range []struct {
		name    string
		r, want [][]int
	}{
		{"edge", [][]int{{0, 9999, 3}, {5, 9999, 0}}, [][]int{{0, 9999, 3}, {5, 9999, 0}}},
		{"one lake", [][]int{{5, 5, 5}, {5, 1, 4}, {5, 5, 5}}, [][]int{{5, 5, 5}, {5, 4, 4}, {5, 5, 5}}},
		{"over the north", [][]int{{5, 4, 5}, {5, 1, 5}, {5, 5, 5}}, [][]int{{5, 4, 5}, {5, 4, 5}, {5, 5, 5}}},
		{"over the south", [][]int{{5, 5, 5}, {5, 1, 5}, {5, 4, 5}}, [][]int{{5, 5, 5}, {5, 4, 5}, {5, 4, 5}}},
		{"over the west", [][]int{{5, 5, 5}, {4, 1, 5}, {5, 5, 5}}, [][]int{{5, 5, 5}, {4, 4, 5}, {5, 5, 5}}},
		{"not over the corners", [][]int{{0, 5, 0}, {5, 1, 5}, {0, 5, 0}}, [][]int{{0, 5, 0}, {5, 5, 5}, {0, 5, 0}}},
		{"a lake with a lower edge", [][]int{{5, 0, 5}, {5, 1, 5}, {5, 5, 5}}, [][]int{{5, 0, 5}, {5, 1, 5}, {5, 5, 5}}},
		{"a hill", [][]int{{5, 5, 5}, {5, 9, 5}, {5, 5, 5}}, [][]int{{5, 5, 5}, {5, 9, 5}, {5, 5, 5}}},
		{"as high as the edge", [][]int{{5, 5, 5}, {5, 5, 5}, {5, 5, 5}}, [][]int{{5, 5, 5}, {5, 5, 5}, {5, 5, 5}}},
		{"the deepest", [][]int{{9999, 9999, 9999}, {9999, 0, 9999}, {9999, 9999, 9999}}, evenRelief(3, 3, 9999)},
		{"two that touch at their corners", [][]int{{9, 9, 9, 9}, {9, 1, 9, 9}, {9, 9, 1, 2}, {9, 9, 9, 9}}, [][]int{{9, 9, 9, 9}, {9, 9, 9, 9}, {9, 9, 2, 2}, {9, 9, 9, 9}}},
		{"two that touch at the other corners", [][]int{{9, 9, 9, 9}, {9, 9, 1, 2}, {9, 1, 9, 9}, {9, 9, 9, 9}}, [][]int{{9, 9, 9, 9}, {9, 9, 2, 2}, {9, 9, 9, 9}, {9, 9, 9, 9}}},
		{"round a corner", [][]int{{9, 9, 9, 9, 9}, {9, 1, 4, 9, 9}, {9, 9, 3, 9, 9}, {9, 9, 2, 9, 9}}, [][]int{{9, 9, 9, 9, 9}, {9, 4, 4, 9, 9}, {9, 9, 3, 9, 9}, {9, 9, 2, 9, 9}}},
		{"round a corner, the way out higher", [][]int{{9, 9, 9, 9, 9}, {9, 1, 2, 9, 9}, {9, 9, 3, 9, 9}, {9, 9, 4, 9, 9}}, [][]int{{9, 9, 9, 9, 9}, {9, 4, 4, 9, 9}, {9, 9, 4, 9, 9}, {9, 9, 4, 9, 9}}},
		{"the lower one of two ways", [][]int{{9, 9, 9, 9, 9}, {6, 3, 1, 3, 5}, {9, 9, 9, 9, 9}}, [][]int{{9, 9, 9, 9, 9}, {6, 5, 5, 5, 5}, {9, 9, 9, 9, 9}}},
		{"two lakes with a wall", [][]int{{9, 9, 9, 9, 9}, {6, 3, 7, 3, 5}, {9, 9, 9, 9, 9}}, [][]int{{9, 9, 9, 9, 9}, {6, 6, 7, 5, 5}, {9, 9, 9, 9, 9}}},
		{"a basin in a basin", [][]int{{9, 9, 9, 9, 9}, {9, 2, 2, 2, 9}, {9, 2, 1, 2, 8}, {9, 2, 2, 2, 9}, {9, 9, 9, 9, 9}}, [][]int{{9, 9, 9, 9, 9}, {9, 8, 8, 8, 9}, {9, 8, 8, 8, 8}, {9, 8, 8, 8, 9}, {9, 9, 9, 9, 9}}},
		{"a basin in a basin with a higher rim", [][]int{{6, 6, 6, 6, 6}, {6, 7, 7, 7, 6}, {6, 7, 1, 7, 5}, {6, 7, 7, 7, 6}, {6, 6, 6, 6, 6}}, [][]int{{6, 6, 6, 6, 6}, {6, 7, 7, 7, 6}, {6, 7, 7, 7, 5}, {6, 7, 7, 7, 6}, {6, 6, 6, 6, 6}}},
	} {
		checkFilled(t, c.name, c.r, c.want)
		checkFilled(t, c.name+", turned", turnedRelief(c.r), turnedRelief(c.want))
		checkRelief(t, c.r)
	}
}

// TestLevelsAlongCanyons has ways out that wind all over the relief, up and down.
func TestLevelsAlongCanyons(t *testing.T) {
	spiral := pathThrough([2]int{0, 1}, [2]int{1, 1}, [2]int{1, 6}, [2]int{6, 6}, [2]int{6, 1}, [2]int{3, 1}, [2]int{3, 4}, [2]int{4, 4})
	for _, path := range [][][2]int{spiral, pathThrough([2]int{1, 0}, [2]int{1, 6}, [2]int{3, 6}, [2]int{3, 1}, [2]int{5, 1}, [2]int{5, 6}, [2]int{6, 6})} {
		down, up := canyon(path, 7), canyon(path, 0)
		most := 7 * (len(path) - 1)
		filled := evenRelief(8, 8, 9999)
		for i, at := range path {
			filled[at[0]][at[1]] = most
			up[at[0]][at[1]] = 7 * i
		}
		checkFilled(t, "the way out goes up", down, filled)
		checkFilled(t, "the way out goes down", up, up)
		checkFilled(t, "turned upside down", upsideDown(down), upsideDown(filled))
		checkFilled(t, "turned", turnedRelief(down), turnedRelief(filled))
		checkRelief(t, down)
		checkRelief(t, up)
	}
}

// upsideDown has the rows and the columns from the end.
func upsideDown(r [][]int) [][]int {
	turned := copyRelief(r)
	slices.Reverse(turned)
	for _, row := range turned {
		slices.Reverse(row)
	}
	return turned
}

func TestLakesKnown(t *testing.T) {
	checkLakes(t, [][]int{{3}}, 0, 0)
	checkLakes(t, slope(8, 8), 0, 0)
	checkLakes(t, evenRelief(8, 8, 0), 0, 0)
	checkLakes(t, [][]int{{5, 5, 5}, {5, 1, 4}, {5, 5, 5}}, 1, 3)
	checkLakes(t, [][]int{{9, 9, 9, 9, 9}, {9, 3, 9, 1, 9}, {9, 9, 9, 9, 9}}, 2, 14)
	checkLakes(t, [][]int{{9, 9, 9, 9, 9}, {9, 3, 8, 1, 9}, {9, 9, 9, 9, 9}}, 3, 15)
	deep := evenRelief(8, 8, 9999)
	for at := range 36 {
		deep[1+at/6][1+at%6] = 0
	}
	checkLakes(t, deep, 36, 36*9999)
	for at := range 8 {
		deep[0][at], deep[7][at], deep[at][0], deep[at][7] = 0, 0, 0, 0
	}
	checkLakes(t, deep, 0, 0)
}

func TestSteepestKnown(t *testing.T) {
	for _, c := range []struct {
		name string
		r    [][]int
		want [2]int
		fall int
	}{
		{"one square", [][]int{{9999}}, [2]int{}, 0},
		{"only pits", evenRelief(8, 8, 9999), [2]int{}, 0},
		{"two pits", [][]int{{1, 1}}, [2]int{}, 0},
		{"the greatest fall", [][]int{{0, 9999}}, [2]int{0, 1}, 9999},
		{"the least fall", [][]int{{1, 0}}, [2]int{0, 0}, 1},
		{"not the highest", [][]int{{9, 8, 5, 4}}, [2]int{0, 1}, 3},
		{"not the greatest to the pit", [][]int{{5, 3}, {4, 1}}, [2]int{1, 0}, 3},
		{"several in a row", [][]int{{6, 4, 2, 0}}, [2]int{0, 0}, 2},
		{"several in a column", [][]int{{0}, {2}, {4}, {6}}, [2]int{1, 0}, 2},
		{"rows before columns", [][]int{{5, 5, 9}, {9, 5, 5}}, [2]int{0, 2}, 4},
		{"a steeper one behind", [][]int{{5, 4, 5, 3, 7}}, [2]int{0, 4}, 4},
		{"the first with a way down", [][]int{{5, 5, 5, 5}, {5, 5, 5, 4}}, [2]int{0, 3}, 1},
		{"the steepest of its neighbors", [][]int{{9, 8, 9}, {7, 9, 3}, {9, 6, 9}}, [2]int{0, 2}, 6},
	} {
		checkSteepest(t, c.r, c.want, c.fall)
		checkRelief(t, c.r)
	}
}

// TestAllSmallReliefs tries all heights of small sizes, so that all ties are there.
func TestAllSmallReliefs(t *testing.T) {
	for _, size := range [][3]int{{1, 1, 9}, {1, 2, 5}, {2, 1, 5}, {1, 5, 3}, {5, 1, 3}, {2, 2, 4}, {2, 4, 2}, {4, 2, 2}, {3, 3, 2}, {3, 4, 1}, {4, 3, 1}} {
		eachSmallRelief(size[0], size[1], size[2], func(r [][]int) { checkRelief(t, r) })
	}
}

func TestManyReliefs(t *testing.T) {
	lakes := 0
	for _, r := range manyReliefs() {
		checkRelief(t, r)
		if count, _, ok := impl.LakesOf(r); ok && count > 0 {
			lakes++
		}
	}
	if n := len(manyReliefs()); n < 400 || lakes < 100 || n-lakes < 100 {
		t.Errorf("%d reliefs, %d with lakes", n, lakes)
	}
}

// TestWaterNeverRunsTwiceOverASquare checks promise 9.
func TestWaterNeverRunsTwiceOverASquare(t *testing.T) {
	reliefs := manyReliefs()
	eachSmallRelief(3, 3, 2, func(r [][]int) { reliefs = append(reliefs, copyRelief(r)) })
	longest := 0
	for _, r := range reliefs {
		for row := range r {
			for col := range r[row] {
				run, ok := impl.RunOff(r, row, col)
				if !ok || len(run) == 0 || run[0] != [2]int{row, col} {
					t.Fatalf("%v: the run from %d, %d is %v, %v", r, row, col, run, ok)
				}
				checkDownhill(t, r, run)
				longest = max(longest, len(run))
			}
		}
	}
	if longest < 39 {
		t.Errorf("the longest run has %d squares", longest)
	}
}

// checkDownhill checks that a run is over each square once, always lower, up to a pit.
func checkDownhill(t *testing.T, r [][]int, run [][2]int) {
	t.Helper()
	seen := map[[2]int]bool{}
	for i, at := range run {
		if seen[at] {
			t.Errorf("%v: the run %v is over %v twice", r, run, at)
		}
		seen[at] = true
		row, col, runs := impl.NextSquare(r, at[0], at[1])
		if runs != (i < len(run)-1) || runs && run[i+1] != [2]int{row, col} {
			t.Errorf("%v: the run %v, but from %v to %d, %d, %v", r, run, at, row, col, runs)
		}
		if i > 0 && (r[at[0]][at[1]] >= r[run[i-1][0]][run[i-1][1]] || !slices.Contains(besideByHand(r, at[0], at[1]), run[i-1])) {
			t.Errorf("%v: the run %v is not downhill at %v", r, run, at)
		}
	}
	pits, ok := impl.PitsOf(r)
	if last := run[len(run)-1]; !ok || !slices.Contains(pits, last) {
		t.Errorf("%v: the run %v does not end in a pit of %v, %v", r, run, pits, ok)
	}
}

// TestFilledReliefsAreFilled checks the second half of the chapter's guarantee.
func TestFilledReliefsAreFilled(t *testing.T) {
	for _, r := range manyReliefs() {
		filled, one := impl.FilledRelief(r)
		again, two := impl.FilledRelief(filled)
		if !one || !two || !impl.IsRelief(filled) || !sameRelief(filled, again) {
			t.Fatalf("%v: filled %v, %v, and again %v, %v", r, filled, one, again, two)
		}
		checkLakes(t, filled, 0, 0)
		for row := range r {
			for col := range r[row] {
				level, three := impl.LevelAt(r, row, col)
				second, four := impl.LevelAt(filled, row, col)
				if !three || !four || level != filled[row][col] || second != level || level < r[row][col] {
					t.Errorf("%v at %d, %d: the levels %d, %v and %d, %v", r, row, col, level, three, second, four)
				}
			}
		}
	}
}

// TestCatchmentsOfPits counts each square once, in the pit of its run.
func TestCatchmentsOfPits(t *testing.T) {
	for _, r := range manyReliefs() {
		pits, one := impl.PitsOf(r)
		sum := 0
		for _, pit := range pits {
			n, ok := impl.Catchment(r, pit[0], pit[1])
			if !ok {
				t.Errorf("%v: no catchment of %v", r, pit)
			}
			sum += n
		}
		row, col, two := impl.GreatestRiver(r)
		if !one || !two || sum != len(r)*len(r[0]) || !slices.Contains(pits, [2]int{row, col}) {
			t.Errorf("%v: %d squares run to the pits %v, %v; the river %d, %d, %v", r, sum, pits, one, row, col, two)
		}
	}
}

// callWaterFunctions calls each function of the chapter.
func callWaterFunctions(r [][]int) {
	impl.IsRelief(r)
	impl.PitsOf(r)
	impl.GreatestRiver(r)
	impl.FilledRelief(r)
	impl.LakesOf(r)
	impl.SteepestSquare(r)
	for _, row := range []int{smallest, -1, 0, 1, 7, 8, largest} {
		for _, col := range []int{smallest, -1, 0, 1, 7, 8, largest} {
			impl.NextSquare(r, row, col)
			impl.RunOff(r, row, col)
			impl.Catchment(r, row, col)
			impl.LevelAt(r, row, col)
		}
	}
}

// TestWaterFunctionsLeaveTheReliefAlone looks behind the ends of the list and of its rows as well.
func TestWaterFunctionsLeaveTheReliefAlone(t *testing.T) {
	reliefs := manyReliefs()
	for _, r := range invalidReliefs() {
		reliefs = append(reliefs, r)
	}
	for _, r := range reliefs {
		given := make([][]int, 0, len(r)+2)
		for _, row := range r {
			given = append(given, append(slices.Clone(row), 77, smallest)[:len(row)])
		}
		behind := []int{5, largest}
		given = append(given, behind, nil)[:len(r)]
		callWaterFunctions(given)
		if !sameRelief(given, r) || !slices.Equal(behind, []int{5, largest}) {
			t.Fatalf("%v has become %v, and behind it %v", r, given, behind)
		}
		for i, row := range given {
			if !slices.Equal(row[:len(row)+2][len(row):], []int{77, smallest}) {
				t.Fatalf("%v: behind the row %d is %v", r, i, row[:len(row)+2])
			}
		}
		if rest := given[:len(r)+2][len(r):]; len(rest[0]) != 2 || rest[1] != nil {
			t.Fatalf("%v: behind the rows are %v", r, rest)
		}
	}
}

// TestSquaresBehindTheReliefAreNotThere cuts off a way out, and the lowest squares.
func TestSquaresBehindTheReliefAreNotThere(t *testing.T) {
	whole := [][]int{{9, 9, 9, 9}, {9, 1, 9, 9}, {9, 8, 9, 9}, {9, 0, 0, 0}, {9, 9, 9, 9, 9}}
	r := slices.Clone(whole)[:3]
	for row := range r {
		r[row] = r[row][:3]
	}
	checkFilled(t, "cut off", r, [][]int{{9, 9, 9}, {9, 8, 9}, {9, 8, 9}})
	checkRun(t, r, [][2]int{{2, 1}, {1, 1}})
	checkRun(t, r, [][2]int{{2, 2}, {2, 1}, {1, 1}})
	checkNoSquare(t, "cut off", r, 3, 1)
	checkNoSquare(t, "cut off", r, 1, 3)
	checkRelief(t, r)
	if impl.IsRelief(whole) || !impl.IsRelief(whole[:4]) {
		t.Errorf("a row behind the others counts")
	}
}

// TestRowsThatShareMemory has the same row several times.
func TestRowsThatShareMemory(t *testing.T) {
	row := []int{9, 3, 9, 5}
	r := [][]int{row, row, row}
	checkRelief(t, r)
	filled, ok := impl.FilledRelief(r)
	if !ok || len(filled) != 3 {
		t.Fatalf("%v, %v", filled, ok)
	}
	filled[0][0] = -77
	if filled[1][0] != 9 || filled[2][0] != 9 || row[0] != 9 {
		t.Errorf("%v, %v", filled, row)
	}
}

// TestWaterResultsOwnTheirMemory spoils each result and asks again, with lakes and without.
func TestWaterResultsOwnTheirMemory(t *testing.T) {
	for _, before := range [][][]int{lakeland(), filledLakeland(), slope(8, 8), evenRelief(3, 2, 4), {{7}}} {
		r := copyRelief(before)
		h := byHand(before)
		for range 2 {
			run, one := impl.RunOff(r, 0, 0)
			pits, two := impl.PitsOf(r)
			filled, three := impl.FilledRelief(r)
			if !one || !two || !three || !sameRelief(r, before) || !slices.Equal(run, h.runs[0][0]) || !slices.Equal(pits, h.pits) || !sameRelief(filled, h.filled) {
				t.Fatalf("%v: %v, %v; %v, %v; %v, %v", r, run, one, pits, two, filled, three)
			}
			for _, squares := range [][][2]int{run, pits} {
				for i := range squares[:cap(squares)] {
					squares[:cap(squares)][i] = [2]int{-77, -77}
				}
			}
			for i, row := range filled {
				for j := range row[:cap(row)] {
					row[:cap(row)][j] = -77
				}
				for k, other := range filled[i+1:] {
					if !slices.Equal(other, h.filled[i+1+k]) {
						t.Fatalf("%v: two rows of the filled relief share memory", r)
					}
				}
			}
			for i := range filled[:cap(filled)] {
				filled[:cap(filled)][i] = nil
			}
		}
	}
}
