package tests

import (
	"math"
	"math/big"
	"slices"
	"strconv"
	"strings"
	"testing"

	"loop.example/g01060/impl"
)

// roadOver takes X and Y of each Corner in turn.
func roadOver(numbers ...int) []impl.Corner {
	r := []impl.Corner{}
	for i := 0; i < len(numbers); i += 2 {
		r = append(r, impl.Corner{X: numbers[i], Y: numbers[i+1]})
	}
	return r
}

// zigzag has Corners on two lines, one after the other, from the place first on.
func zigzag(first, corners int) []impl.Corner {
	r := []impl.Corner{}
	for i := range corners {
		r = append(r, impl.Corner{X: first + i, Y: i % 2})
	}
	return r
}

// straightRoad goes on in equal steps.
func straightRoad(corners, x, y, stepX, stepY int) []impl.Corner {
	r := []impl.Corner{}
	for i := range corners {
		r = append(r, impl.Corner{X: x + i*stepX, Y: y + i*stepY})
	}
	return r
}

// backward has the Corners from the end.
func backward(r []impl.Corner) []impl.Corner {
	back := slices.Clone(r)
	slices.Reverse(back)
	return back
}

// mapped has each Corner at another place.
func mapped(r []impl.Corner, place func(x, y int) (int, int)) []impl.Corner {
	at := slices.Clone(r)
	for i, c := range r {
		at[i].X, at[i].Y = place(c.X, c.Y)
	}
	return at
}

// eachPlace sees all places of a square with a side of most.
func eachPlace(most int, see func(c impl.Corner)) {
	for x := range most + 1 {
		for y := range most + 1 {
			see(impl.Corner{X: x, Y: y})
		}
	}
}

// eachSmallRoad sees all roads with so many Corners in a square. The road is the caller's only
// until see returns.
func eachSmallRoad(corners, most int, see func(r []impl.Corner)) {
	var goOn func(r []impl.Corner)
	goOn = func(r []impl.Corner) {
		if len(r) == corners {
			see(r)
			return
		}
		eachPlace(most, func(c impl.Corner) {
			if len(r) == 0 || r[len(r)-1] != c {
				goOn(append(r, c))
			}
		})
	}
	goOn(make([]impl.Corner, 0, corners))
}

// manyRoads has all numbers of Corners, in small squares, so that many of them are on one line,
// and all over the map.
func manyRoads() [][]impl.Corner {
	roads := [][]impl.Corner{
		straightRoad(12, 0, 0, 1, 1), straightRoad(12, 0, 0, 909, 909), straightRoad(12, 9999, 0, -909, 909),
		straightRoad(12, 0, 5, 909, 0), straightRoad(12, 5, 9999, 0, -909), straightRoad(2, 0, 0, 9999, 9999),
		zigzag(0, 12), zigzag(9988, 12), handmadeRoad(),
	}
	next := numbersFrom(41)
	for corners := 2; corners <= 12; corners++ {
		for _, most := range []int{1, 2, 2, 3, 3, 5, 8, 40, 1000, 9999, 9999} {
			for range 6 {
				low := []int{0, 9999 - most}[next(0, 1)]
				r := []impl.Corner{}
				for len(r) < corners {
					c := impl.Corner{X: low + next(0, most), Y: low + next(0, most)}
					if len(r) == 0 || r[len(r)-1] != c {
						r = append(r, c)
					}
				}
				roads = append(roads, r)
			}
		}
		for range 10 {
			roads = append(roads, walkOn(corners, next))
		}
	}
	return roads
}

// walkOn takes small steps from the middle of the map, about half of them as the one before.
func walkOn(corners int, next func(low, high int) int) []impl.Corner {
	r := roadOver(5000, 5000)
	x, y := 1, 2
	for len(r) < corners {
		if next(0, 1) == 0 {
			x, y = next(-2, 2), next(-2, 2)
		}
		if x != 0 || y != 0 {
			last := r[len(r)-1]
			r = append(r, impl.Corner{X: last.X + x, Y: last.Y + y})
		}
	}
	return r
}

// handmadeRoad has bends of each kind, several straight ones in a row, and parts that cross.
func handmadeRoad() []impl.Corner {
	return roadOver(10, 10, 12, 11, 14, 12, 20, 15, 20, 30, 20, 20, 20, 25, 10, 25, 10, 12, 30, 12, 31, 12, 10, 12)
}

// invalidRoads returns lists that are none.
func invalidRoads() map[string][]impl.Corner {
	roads := map[string][]impl.Corner{
		"no list":                    nil,
		"no Corners":                 {},
		"one Corner":                 roadOver(3, 4),
		"the Corner 0, 0":            roadOver(0, 0),
		"one Corner more":            zigzag(0, 13),
		"two Corners more":           zigzag(0, 14),
		"very many Corners":          slices.Repeat(roadOver(0, 0, 1, 0), 50000),
		"one Corner more, the same":  slices.Repeat(roadOver(5, 5), 13),
		"only one place":             roadOver(5, 5, 5, 5),
		"only 0, 0":                  make([]impl.Corner, 12),
		"the first two are the same": roadOver(1, 2, 1, 2, 3, 4, 5, 6),
		"the middle two as well":     roadOver(1, 2, 3, 4, 3, 4, 5, 6),
		"the last two are the same":  roadOver(1, 2, 3, 4, 5, 6, 5, 6),
		"three are the same":         roadOver(1, 2, 3, 4, 3, 4, 3, 4, 5, 6),
		"two the same, and one back": roadOver(1, 2, 3, 4, 1, 2, 1, 2),
		"twelve, the last one twice": append(zigzag(0, 11), zigzag(0, 11)[10]),
	}
	for _, n := range []int{smallest, -1 << 32, -10000, -1, 10000, 10001, 1 << 32, 1<<32 + 5, 1 << 62, largest} {
		for i, name := range []string{"first", "second", "last"} {
			across, up := roadOver(1, 2, 3, 4, 5, 6), roadOver(1, 2, 3, 4, 5, 6)
			across[i].X, up[i].Y = n, n
			roads["an X of "+strconv.Itoa(n)+" in the "+name] = across
			roads["a Y of "+strconv.Itoa(n)+" in the "+name] = up
		}
		roads["only "+strconv.Itoa(n)] = roadOver(n, n, n, 5)
	}
	return roads
}

// lengthByHand takes the root of a number of any size.
func lengthByHand(a, b impl.Corner) int {
	x, y := big.NewInt(int64(100*(a.X-b.X))), big.NewInt(int64(100*(a.Y-b.Y)))
	square := new(big.Int).Add(x.Mul(x, x), y.Mul(y, y))
	return int(square.Sqrt(square).Int64())
}

// bendByHand compares the directions of the two steps. The angle between two of them that are not
// the same is at least 5 * 10^-9.
func bendByHand(a, b, c impl.Corner) string {
	turn := math.Atan2(float64(c.Y-b.Y), float64(c.X-b.X)) - math.Atan2(float64(b.Y-a.Y), float64(b.X-a.X))
	if turn > math.Pi {
		turn -= 2 * math.Pi
	}
	if turn < -math.Pi {
		turn += 2 * math.Pi
	}
	const close = 1e-10
	switch {
	case math.Abs(turn) < close:
		return "s"
	case math.Pi-math.Abs(turn) < close:
		return "b"
	case turn > 0:
		return "l"
	default:
		return "r"
	}
}

func bendsByHand(r []impl.Corner) string {
	bends := []string{}
	for i := 2; i < len(r); i++ {
		bends = append(bends, bendByHand(r[i-2], r[i-1], r[i]))
	}
	return strings.Join(bends, "")
}

// liesOn reports whether c is on the straight line from a to b: as far from both together as these
// are from each other, which is so where c - a is a part of b - a.
func liesOn(a, b, c impl.Corner) bool {
	x, y, u, v := b.X-a.X, b.Y-a.Y, c.X-a.X, c.Y-a.Y
	along := x*u + y*v
	return x*v == y*u && 0 <= along && along <= x*x+y*y
}

// meetByHand solves for the place where the lines through both parts meet: how far along each
// part it is, as a fraction.
func meetByHand(a, b, c, d impl.Corner) bool {
	x, y, u, v := b.X-a.X, b.Y-a.Y, d.X-c.X, d.Y-c.Y
	den := x*v - y*u
	if den == 0 {
		return liesOn(a, b, c) || liesOn(a, b, d) || liesOn(c, d, a) || liesOn(c, d, b)
	}
	first, second := (c.X-a.X)*v-(c.Y-a.Y)*u, (c.X-a.X)*y-(c.Y-a.Y)*x
	if den < 0 {
		den, first, second = -den, -first, -second
	}
	return 0 <= first && first <= den && 0 <= second && second <= den
}

func crossingsByHand(a, b []impl.Corner) [][2]int {
	pairs := [][2]int{}
	for i := 1; i < len(a); i++ {
		for j := 1; j < len(b); j++ {
			if meetByHand(a[i-1], a[i], b[j-1], b[j]) {
				pairs = append(pairs, [2]int{i - 1, j - 1})
			}
		}
	}
	return pairs
}

func isClearByHand(r []impl.Corner) bool {
	for i := 1; i < len(r); i++ {
		if i+1 < len(r) && (liesOn(r[i-1], r[i], r[i+1]) || liesOn(r[i], r[i+1], r[i-1])) {
			return false
		}
		for j := i + 2; j < len(r); j++ {
			if meetByHand(r[i-1], r[i], r[j-1], r[j]) {
				return false
			}
		}
	}
	return true
}

// plainByHand leaves out a Corner that lies between the two beside it.
func plainByHand(r []impl.Corner) []impl.Corner {
	plain := []impl.Corner{r[0]}
	for i := 1; i+1 < len(r); i++ {
		if !liesOn(r[i-1], r[i+1], r[i]) || liesOn(r[i-1], r[i], r[i+1]) || liesOn(r[i], r[i+1], r[i-1]) {
			plain = append(plain, r[i])
		}
	}
	return append(plain, r[len(r)-1])
}

func checkLength(t *testing.T, r []impl.Corner, want int) {
	t.Helper()
	if length, ok := impl.RoadLength(r); !ok || length != want {
		t.Errorf("%v: the length %d, %v, not %d", r, length, ok, want)
	}
}

func checkBends(t *testing.T, r []impl.Corner, want string) {
	t.Helper()
	if bends, ok := impl.BendsOf(r); !ok || bends != want {
		t.Errorf("%v: the bends %q, %v, not %q", r, bends, ok, want)
	}
}

func checkPlain(t *testing.T, r, want []impl.Corner) {
	t.Helper()
	if plain, ok := impl.PlainRoad(r); !ok || !slices.Equal(plain, want) {
		t.Errorf("%v: plain it is %v, %v, not %v", r, plain, ok, want)
	}
}

func checkJoined(t *testing.T, a, b, want []impl.Corner) {
	t.Helper()
	if joined, ok := impl.JoinRoads(a, b); !ok || !slices.Equal(joined, want) {
		t.Errorf("%v and %v: %v, %v, not %v", a, b, joined, ok, want)
	}
}

func checkApart(t *testing.T, name string, a, b []impl.Corner) {
	t.Helper()
	if joined, ok := impl.JoinRoads(a, b); ok || len(joined) != 0 {
		t.Errorf("%s: %v and %v were joined: %v, %v", name, a, b, joined, ok)
	}
}

func checkAlong(t *testing.T, r []impl.Corner, n, part, behind int) {
	t.Helper()
	if i, far, ok := impl.AlongRoad(r, n); !ok || i != part || far != behind {
		t.Errorf("%v, %d along: %d, %d, %v, not %d, %d", r, n, i, far, ok, part, behind)
	}
}

func checkBeyond(t *testing.T, r []impl.Corner, n int) {
	t.Helper()
	if part, far, ok := impl.AlongRoad(r, n); ok || part != 0 || far != 0 {
		t.Errorf("%v, %d along: %d, %d, %v", r, n, part, far, ok)
	}
}

func checkDetour(t *testing.T, r []impl.Corner, num, den int) {
	t.Helper()
	if a, b, ok := impl.DetourOf(r); !ok || a != num || b != den {
		t.Errorf("%v: the detour %d/%d, %v, not %d/%d", r, a, b, ok, num, den)
	}
}

func checkNoDetour(t *testing.T, r []impl.Corner) {
	t.Helper()
	if num, den, ok := impl.DetourOf(r); ok || num != 0 || den != 0 {
		t.Errorf("%v: the detour %d/%d, %v", r, num, den, ok)
	}
}

func checkCrossings(t *testing.T, a, b []impl.Corner, want [][2]int) {
	t.Helper()
	if pairs, ok := impl.CrossingParts(a, b); !ok || !slices.Equal(pairs, want) {
		t.Errorf("%v and %v: %v, %v, not %v", a, b, pairs, ok, want)
	}
}

func checkClear(t *testing.T, r []impl.Corner, want bool) {
	t.Helper()
	if clear, ok := impl.IsClearRoad(r); !ok || clear != want {
		t.Errorf("%v: clear is %v, %v, not %v", r, clear, ok, want)
	}
}

// checkRoad compares all that is told of a road with what is found by hand.
func checkRoad(t *testing.T, r []impl.Corner) {
	t.Helper()
	if !impl.IsRoadLine(r) {
		t.Fatalf("%v is no road", r)
	}
	begins := []int{0}
	for i := 1; i < len(r); i++ {
		begins = append(begins, begins[i-1]+lengthByHand(r[i-1], r[i]))
	}
	length := begins[len(r)-1]
	checkLength(t, r, length)
	checkBends(t, r, bendsByHand(r))
	checkPlain(t, r, plainByHand(r))
	checkClear(t, r, isClearByHand(r))
	if back, ok := impl.ReverseRoad(r); !ok || !slices.Equal(back, backward(r)) {
		t.Errorf("%v: turned around it is %v, %v", r, back, ok)
	}
	for part := range len(r) - 1 {
		checkAlong(t, r, begins[part], part, 0)
		checkAlong(t, r, begins[part]+1, part, 1)
		checkAlong(t, r, begins[part+1]-1, part, begins[part+1]-1-begins[part])
	}
	checkAlong(t, r, length, len(r)-2, length-begins[len(r)-2])
	checkBeyond(t, r, length+1)
	checkBeyond(t, r, -1)
	if r[0] == r[len(r)-1] {
		checkNoDetour(t, r)
		return
	}
	straight := big.NewRat(int64(length), int64(lengthByHand(r[0], r[len(r)-1])))
	checkDetour(t, r, int(straight.Num().Int64()), int(straight.Denom().Int64()))
}

func checkNoRoad(t *testing.T, name string, r []impl.Corner) {
	t.Helper()
	if impl.IsRoadLine(r) {
		t.Errorf("%s: a road", name)
	}
	if length, ok := impl.RoadLength(r); ok || length != 0 {
		t.Errorf("%s: the length %d, %v", name, length, ok)
	}
	if bends, ok := impl.BendsOf(r); ok || bends != "" {
		t.Errorf("%s: the bends %q, %v", name, bends, ok)
	}
	if plain, ok := impl.PlainRoad(r); ok || len(plain) != 0 {
		t.Errorf("%s: plain it is %v, %v", name, plain, ok)
	}
	if back, ok := impl.ReverseRoad(r); ok || len(back) != 0 {
		t.Errorf("%s: turned around it is %v, %v", name, back, ok)
	}
	if clear, ok := impl.IsClearRoad(r); ok || clear {
		t.Errorf("%s: clear is %v, %v", name, clear, ok)
	}
	for _, n := range []int{smallest, -1, 0, 1, 100, largest} {
		if part, far, ok := impl.AlongRoad(r, n); ok || part != 0 || far != 0 {
			t.Errorf("%s: %d along it are %d, %d, %v", name, n, part, far, ok)
		}
	}
	if num, den, ok := impl.DetourOf(r); ok || num != 0 || den != 0 {
		t.Errorf("%s: the detour %d/%d, %v", name, num, den, ok)
	}
	valid := roadOver(1, 2, 30, 40)
	for _, pair := range [][2][]impl.Corner{{r, r}, {r, valid}, {valid, r}} {
		if pairs, ok := impl.CrossingParts(pair[0], pair[1]); ok || len(pairs) != 0 {
			t.Errorf("%s: the crossings %v, %v", name, pairs, ok)
		}
	}
	if len(r) == 0 {
		checkApart(t, name, r, valid)
		checkApart(t, name, valid, r)
		return
	}
	// One begins where the other one ends.
	checkApart(t, name, append(roadOver(77, 78), r[0]), r)
	checkApart(t, name, r, append(roadOver(r[len(r)-1].X, r[len(r)-1].Y), roadOver(77, 78)...))
}

func TestInvalidRoadsFailEverywhere(t *testing.T) {
	for name, r := range invalidRoads() {
		checkNoRoad(t, name, r)
		if len(r) < 100 {
			checkNoRoad(t, name+", from its end", backward(r))
		}
	}
}

func TestRoadSizes(t *testing.T) {
	for corners := range 15 {
		for _, r := range [][]impl.Corner{zigzag(0, corners), zigzag(9985, corners), straightRoad(corners, 0, 0, 0, 700), straightRoad(corners, 9999, 9999, -1, 0)} {
			if corners >= 2 && corners <= impl.MaxBends {
				checkRoad(t, r)
			} else {
				checkNoRoad(t, strconv.Itoa(corners)+" Corners", r)
			}
		}
	}
	if impl.MaxBends != 12 {
		t.Errorf("MaxBends is %d", impl.MaxBends)
	}
}

// TestCornerLimits puts each number at each place of a road, as X and as Y.
func TestCornerLimits(t *testing.T) {
	for _, n := range []int{-10000, -9999, -2, -1, 0, 1, 9998, 9999, 10000, 10001, 19999} {
		for corners := 2; corners <= 12; corners++ {
			for i := range corners {
				across, up := straightRoad(corners, 100, 200, 5, 5), straightRoad(corners, 100, 200, 5, 5)
				across[i].X, up[i].Y = n, n
				if valid := 0 <= n && n <= 9999; impl.IsRoadLine(across) != valid || impl.IsRoadLine(up) != valid {
					t.Errorf("%d at %d of %d: %v, %v", n, i, corners, impl.IsRoadLine(across), impl.IsRoadLine(up))
				}
			}
		}
	}
	checkRoad(t, roadOver(0, 0, 9999, 9999))
	checkRoad(t, roadOver(0, 9999, 9999, 0, 0, 0, 9999, 9999, 0, 9999))
	checkRoad(t, roadOver(0, 0, 0, 1))
	checkRoad(t, roadOver(9998, 9999, 9999, 9999))
}

func TestSameCorners(t *testing.T) {
	for corners := 3; corners <= 12; corners++ {
		for i := range corners - 1 {
			r := zigzag(50, corners)
			r[i+1] = r[i]
			checkNoRoad(t, "two that follow one another", r)
			if i+2 < corners {
				other := zigzag(50, corners)
				other[i+2] = other[i]
				checkRoad(t, other)
			}
		}
	}
	checkRoad(t, roadOver(5, 5, 6, 5, 5, 5, 6, 5, 5, 5, 6, 5, 5, 5, 6, 5, 5, 5, 6, 5, 5, 5, 6, 5))
	checkRoad(t, roadOver(5, 5, 5, 6, 5, 5))
	checkRoad(t, roadOver(5, 6, 6, 5))
	checkRoad(t, roadOver(5, 5, 5, 6, 6, 6, 6, 5, 5, 5, 5, 6, 6, 6, 6, 5))
}

func TestLengthsKnown(t *testing.T) {
	for _, c := range []struct {
		road []impl.Corner
		want int
	}{
		{roadOver(0, 0, 1, 0), 100},
		{roadOver(0, 0, 0, 9999), 999900},
		{roadOver(9999, 0, 0, 0), 999900},
		{roadOver(0, 0, 3, 4), 500},
		{roadOver(8, 1, 3, 13), 1300},
		{roadOver(0, 0, 1, 1), 141},
		{roadOver(1, 0, 0, 1), 141},
		{roadOver(0, 0, 1, 2), 223},
		{roadOver(0, 0, 2, 2), 282},
		{roadOver(0, 0, 7, 1), 707},
		{roadOver(0, 0, 4, 8), 894},
		{roadOver(10, 10, 6, 2), 894},
		{roadOver(0, 0, 70, 70), 9899},
		{roadOver(0, 0, 9999, 9999), 1414072},
		{roadOver(9999, 0, 0, 9999), 1414072},
		{roadOver(0, 0, 9999, 9998), 1414001},
		{roadOver(0, 0, 1, 0, 2, 0), 200},
		{roadOver(0, 0, 1, 1, 2, 2), 282},
		{roadOver(0, 0, 1, 1, 2, 2, 3, 3), 423}, // and not 424, the length of 0, 0 to 3, 3
		{roadOver(0, 0, 3, 3), 424},
		{roadOver(0, 0, 3, 4, 6, 8, 6, 0), 1800},
		{roadOver(5, 5, 6, 5, 5, 5), 200},
		{roadOver(0, 0, 4, 0, 4, 3, 0, 0), 1200},
		{straightRoad(12, 0, 0, 1, 1), 1551},
		{roadOver(0, 0, 11, 11), 1555},
		{roadOver(0, 0, 9999, 9999, 0, 0, 9999, 9999, 0, 0, 9999, 9999, 0, 0, 9999, 9999, 0, 0, 9999, 9999, 0, 0, 9999, 9999), 15554792},
	} {
		checkLength(t, c.road, c.want)
		checkLength(t, backward(c.road), c.want)
		checkRoad(t, c.road)
	}
}

// TestLengthsAreWholeParts has steps of all kinds: a length and one more are on both sides of the root.
func TestLengthsAreWholeParts(t *testing.T) {
	next := numbersFrom(43)
	whole := 0
	for i := range 20000 {
		most := []int{9, 99, 999, 9999}[i%4]
		r := roadOver(next(0, most), next(0, most), next(0, most), next(0, most))
		if r[0] == r[1] {
			continue
		}
		x, y := r[0].X-r[1].X, r[0].Y-r[1].Y
		square := 10000 * (x*x + y*y)
		length, ok := impl.RoadLength(r)
		if !ok || length*length > square || (length+1)*(length+1) <= square {
			t.Fatalf("%v: %d, %v", r, length, ok)
		}
		if length*length == square {
			whole++
		}
	}
	if whole < 100 {
		t.Errorf("only %d whole lengths", whole)
	}
}

func TestBendsKnown(t *testing.T) {
	for _, c := range []struct {
		road []impl.Corner
		want string
	}{
		{roadOver(0, 0, 1, 0), ""},
		{roadOver(0, 0, 9999, 9999), ""},
		{roadOver(0, 0, 4, 0, 4, 3), "l"},
		{roadOver(0, 3, 4, 3, 4, 0), "r"},
		{roadOver(0, 0, 4, 0, 9, 0), "s"},
		{roadOver(0, 0, 4, 0, 2, 0), "b"},
		{roadOver(0, 0, 4, 0, 0, 0), "b"},
		{roadOver(3, 0, 4, 0, 0, 0), "b"},
		{roadOver(0, 0, 2, 1, 4, 2), "s"},
		{roadOver(0, 0, 2, 1, 6, 3), "s"},
		{roadOver(0, 0, 4, 2, 6, 3), "s"},
		{roadOver(0, 0, 4, 2, 2, 1), "b"},
		{roadOver(2, 1, 4, 2, 0, 0), "b"},
		{roadOver(0, 0, 2, 1, 4, 3), "l"},
		{roadOver(0, 0, 2, 1, 4, 1), "r"},
		{roadOver(2, 2, 4, 3, 3, 3), "l"},
		{roadOver(2, 2, 4, 3, 3, 2), "r"},
		{roadOver(0, 0, 9998, 9997, 9999, 9998), "l"},
		{roadOver(0, 0, 9997, 9998, 9998, 9999), "r"},
		{roadOver(0, 0, 9999, 9998, 1, 1), "l"},
		{roadOver(0, 0, 9999, 9998, 1, 0), "r"},
		{roadOver(0, 0, 4999, 4998, 9998, 9996), "s"},
		{roadOver(9999, 0, 0, 9999, 9998, 1), "b"},
		{roadOver(0, 0, 3, 4, 6, 8, 6, 0), "sr"},
		{roadOver(0, 0, 4, 0, 2, 0, 2, 3), "br"},
		{roadOver(0, 0, 0, 1, 1, 1, 1, 0, 0, 0), "rrr"},
		{roadOver(0, 0, 1, 0, 1, 1, 0, 1, 0, 0, 1, 0, 2, 0, 1, 0), "llllsb"},
		{straightRoad(12, 0, 0, 3, 7), "ssssssssss"},
		{zigzag(0, 12), "rlrlrlrlrl"},
		{handmadeRoad(), "sslbblllsb"},
	} {
		checkBends(t, c.road, c.want)
		checkRoad(t, c.road)
	}
}

// TestBendsAtEachSlant has all pairs of short steps.
func TestBendsAtEachSlant(t *testing.T) {
	middle := impl.Corner{X: 3, Y: 3}
	counts := map[string]int{}
	eachPlace(6, func(from impl.Corner) {
		eachPlace(6, func(to impl.Corner) {
			r := []impl.Corner{from, middle, to}
			if !impl.IsRoadLine(r) {
				return
			}
			checkRoad(t, r)
			bends, _ := impl.BendsOf(r)
			counts[bends]++
		})
	})
	if counts["l"] != counts["r"] || counts["s"] != counts["b"] || counts["s"] < 48 || counts["l"] < 900 {
		t.Errorf("%v", counts)
	}
}

func TestPlainKnown(t *testing.T) {
	for _, c := range []struct {
		name       string
		road, want []impl.Corner
	}{
		{"only two", roadOver(1, 2, 3, 4), roadOver(1, 2, 3, 4)},
		{"one of them", roadOver(0, 0, 1, 0, 2, 0), roadOver(0, 0, 2, 0)},
		{"one of them, at a slant", roadOver(9, 9, 6, 7, 0, 3), roadOver(9, 9, 0, 3)},
		{"one before a bend", roadOver(0, 0, 3, 4, 6, 8, 6, 0), roadOver(0, 0, 6, 8, 6, 0)},
		{"one behind a bend", roadOver(6, 0, 6, 8, 3, 4, 0, 0), roadOver(6, 0, 6, 8, 0, 0)},
		{"one between two bends", roadOver(0, 0, 0, 5, 3, 5, 7, 5, 7, 1), roadOver(0, 0, 0, 5, 7, 5, 7, 1)},
		{"several that follow one another", roadOver(0, 0, 1, 0, 2, 0, 5, 0, 5, 5), roadOver(0, 0, 5, 0, 5, 5)},
		{"all but the ends", straightRoad(12, 0, 11, 1, -1), roadOver(0, 11, 11, 0)},
		{"in steps that grow", roadOver(0, 0, 1, 1, 3, 3, 7, 7, 100, 100, 9999, 9999), roadOver(0, 0, 9999, 9999)},
		{"on both sides of a bend", roadOver(0, 0, 1, 0, 2, 0, 2, 1, 2, 2), roadOver(0, 0, 2, 0, 2, 2)},
		{"turned back", roadOver(0, 0, 4, 0, 2, 0), roadOver(0, 0, 4, 0, 2, 0)},
		{"turned back on itself", roadOver(0, 0, 2, 0, 4, 0, 3, 0, 1, 0), roadOver(0, 0, 4, 0, 1, 0)},
		{"turned back to the beginning", roadOver(0, 0, 2, 0, 0, 0), roadOver(0, 0, 2, 0, 0, 0)},
		{"over the beginning again", roadOver(2, 0, 4, 0, 2, 0, 0, 0), roadOver(2, 0, 4, 0, 0, 0)},
		{"there and back and there", roadOver(0, 0, 3, 3, 6, 6, 3, 3, 0, 0, 3, 3), roadOver(0, 0, 6, 6, 0, 0, 3, 3)},
		{"nearly straight", roadOver(0, 0, 5000, 5000, 9999, 9998), roadOver(0, 0, 5000, 5000, 9999, 9998)},
		{"none of them", zigzag(0, 12), zigzag(0, 12)},
	} {
		checkPlain(t, c.road, c.want)
		checkPlain(t, backward(c.road), backward(c.want))
		checkPlain(t, c.want, c.want)
		checkRoad(t, c.road)
		if !impl.IsRoadLine(c.want) {
			t.Errorf("%s: %v", c.name, c.want)
		}
	}
}

// TestPlainRoadsHaveNoStraightBends checks the bends that are left, and that a Corner less makes
// no length smaller.
func TestPlainRoadsHaveNoStraightBends(t *testing.T) {
	left := 0
	for _, r := range manyRoads() {
		plain, ok := impl.PlainRoad(r)
		if !ok || !impl.IsRoadLine(plain) {
			t.Fatalf("%v: %v, %v", r, plain, ok)
		}
		checkBends(t, plain, strings.ReplaceAll(bendsByHand(r), "s", ""))
		checkPlain(t, plain, plain)
		before, _ := impl.RoadLength(r)
		after, _ := impl.RoadLength(plain)
		if gone := len(r) - len(plain); after < before || after > before+gone {
			t.Errorf("%v: the length %d became %d", r, before, after)
		}
		left += len(r) - len(plain)
	}
	if left < 300 {
		t.Errorf("only %d Corners were left out", left)
	}
}

// TestTurnedAroundHasTheSameLength checks promise 10.
func TestTurnedAroundHasTheSameLength(t *testing.T) {
	roads := manyRoads()
	eachSmallRoad(4, 2, func(r []impl.Corner) { roads = append(roads, slices.Clone(r)) })
	for _, r := range roads {
		back, ok := impl.ReverseRoad(r)
		if !ok || !impl.IsRoadLine(back) {
			t.Fatalf("%v: %v, %v", r, back, ok)
		}
		there, one := impl.RoadLength(r)
		and, two := impl.RoadLength(back)
		again, three := impl.ReverseRoad(back)
		if !one || !two || there != and || !three || !slices.Equal(again, r) {
			t.Errorf("%v: %d, %v; %v: %d, %v; %v, %v", r, there, one, back, and, two, again, three)
		}
		// What was to the left is to the right on the way back.
		bends := []byte(strings.NewReplacer("l", "r", "r", "l").Replace(bendsByHand(r)))
		slices.Reverse(bends)
		checkBends(t, back, string(bends))
		checkClear(t, back, isClearByHand(r))
	}
}

func TestTurnedAroundKnown(t *testing.T) {
	for _, c := range [][2][]impl.Corner{
		{roadOver(1, 2, 3, 4), roadOver(3, 4, 1, 2)},
		{roadOver(1, 2, 3, 4, 5, 7), roadOver(5, 7, 3, 4, 1, 2)},
		{roadOver(1, 2, 3, 4, 1, 2), roadOver(1, 2, 3, 4, 1, 2)},
		{roadOver(0, 0, 9999, 9999, 0, 9999, 1, 1), roadOver(1, 1, 0, 9999, 9999, 9999, 0, 0)},
	} {
		for i := range 2 {
			if back, ok := impl.ReverseRoad(c[i]); !ok || !slices.Equal(back, c[1-i]) {
				t.Errorf("%v: %v, %v", c[i], back, ok)
			}
		}
	}
}

func TestJoinKnown(t *testing.T) {
	a := roadOver(0, 0, 3, 4)
	checkJoined(t, a, roadOver(3, 4, 5, 5), roadOver(0, 0, 3, 4, 5, 5))
	checkJoined(t, a, roadOver(3, 4, 6, 8), roadOver(0, 0, 3, 4, 6, 8)) // a Corner on a straight road
	checkJoined(t, a, roadOver(3, 4, 6, 8, 9, 12), roadOver(0, 0, 3, 4, 6, 8, 9, 12))
	checkJoined(t, a, roadOver(3, 4, 0, 0), roadOver(0, 0, 3, 4, 0, 0))
	checkJoined(t, roadOver(3, 4, 0, 0), a, roadOver(3, 4, 0, 0, 3, 4))
	checkJoined(t, roadOver(0, 0, 0, 9, 9, 9), roadOver(9, 9, 9, 0, 0, 0), roadOver(0, 0, 0, 9, 9, 9, 9, 0, 0, 0))
	checkJoined(t, roadOver(5, 5, 0, 9999), roadOver(0, 9999, 9999, 0), roadOver(5, 5, 0, 9999, 9999, 0))
	checkApart(t, "at the beginning", a, roadOver(0, 0, 5, 5))
	checkApart(t, "end to end", a, roadOver(5, 5, 3, 4))
	checkApart(t, "the same road", a, a)
	checkApart(t, "another X", a, roadOver(4, 4, 5, 5))
	checkApart(t, "another Y", a, roadOver(3, 3, 5, 5))
	checkApart(t, "X and Y in turn", a, roadOver(4, 3, 5, 5))
	checkApart(t, "at the second Corner", a, roadOver(1, 1, 3, 4, 5, 5))
	checkApart(t, "at the last but one", roadOver(0, 0, 3, 4, 1, 1), roadOver(3, 4, 5, 5))
	checkApart(t, "the other way round", roadOver(3, 4, 5, 5), a)
}

// TestJoinSizes has a result of each size.
func TestJoinSizes(t *testing.T) {
	for one := 2; one <= 12; one++ {
		for two := 2; two <= 12; two++ {
			for _, all := range [][]impl.Corner{zigzag(4, one+two-1), straightRoad(one+two-1, 9, 0, 2, 1), straightRoad(one+two-1, 9, 9999, 0, -1)} {
				a, b := all[:one], all[one-1:]
				if one+two-1 <= 12 {
					checkJoined(t, a, b, all)
				} else {
					checkApart(t, "too many Corners", a, b)
				}
			}
		}
	}
}

// TestJoinedRoadsAreAsLongAsBoth cuts each road at each Corner.
func TestJoinedRoadsAreAsLongAsBoth(t *testing.T) {
	for _, r := range manyRoads() {
		whole, _ := impl.RoadLength(r)
		for i := 1; i < len(r)-1; i++ {
			checkJoined(t, r[:i+1], r[i:], r)
			before, one := impl.RoadLength(r[:i+1])
			behind, two := impl.RoadLength(r[i:])
			if !one || !two || before+behind != whole {
				t.Errorf("%v at %d: %d and %d, not %d", r, i, before, behind, whole)
			}
		}
	}
}

func TestAlongKnown(t *testing.T) {
	r := roadOver(0, 0, 3, 4, 6, 8, 6, 0)
	for _, c := range [][3]int{
		{0, 0, 0}, {1, 0, 1}, {499, 0, 499}, {500, 1, 0}, {501, 1, 1}, {700, 1, 200}, {999, 1, 499},
		{1000, 2, 0}, {1001, 2, 1}, {1799, 2, 799}, {1800, 2, 800},
	} {
		checkAlong(t, r, c[0], c[1], c[2])
	}
	one := roadOver(0, 0, 1, 1)
	checkAlong(t, one, 0, 0, 0)
	checkAlong(t, one, 140, 0, 140)
	checkAlong(t, one, 141, 0, 141)
	checkBeyond(t, one, 142)
	slanted := roadOver(0, 0, 1, 1, 2, 2, 3, 3)
	checkAlong(t, slanted, 140, 0, 140)
	checkAlong(t, slanted, 141, 1, 0)
	checkAlong(t, slanted, 282, 2, 0)
	checkAlong(t, slanted, 423, 2, 141)
	checkBeyond(t, slanted, 424)
	back := roadOver(5, 5, 6, 5, 5, 5)
	checkAlong(t, back, 100, 1, 0)
	checkAlong(t, back, 200, 1, 100)
	longest := roadOver(0, 0, 9999, 9999, 0, 0)
	checkAlong(t, longest, 1414071, 0, 1414071)
	checkAlong(t, longest, 1414072, 1, 0)
	checkAlong(t, longest, 2828144, 1, 1414072)
	for _, n := range []int{smallest, -largest, -1 << 32, -1800, -2, -1, 1801, 1802, 3600, 1 << 32, 1<<32 + 5, 1 << 62, largest - 1, largest} {
		checkBeyond(t, r, n)
	}
}

// TestAlongEachLength goes along small roads step by step.
func TestAlongEachLength(t *testing.T) {
	for _, r := range [][]impl.Corner{
		roadOver(0, 0, 1, 0), roadOver(0, 0, 1, 1, 0, 2, 0, 0), roadOver(0, 0, 1, 2, 2, 4, 3, 3), zigzag(7, 12), roadOver(5, 5, 6, 5, 5, 5),
	} {
		n := 0
		for part := range len(r) - 1 {
			for far := range lengthByHand(r[part], r[part+1]) {
				checkAlong(t, r, n, part, far)
				n++
			}
		}
		checkAlong(t, r, n, len(r)-2, lengthByHand(r[len(r)-2], r[len(r)-1]))
		checkBeyond(t, r, n+1)
	}
}

func TestDetoursKnown(t *testing.T) {
	for _, c := range []struct {
		road     []impl.Corner
		num, den int
	}{
		{roadOver(0, 0, 1, 0), 1, 1},
		{roadOver(0, 0, 1, 1), 1, 1},
		{roadOver(9999, 0, 0, 9999), 1, 1},
		{roadOver(0, 0, 5, 0, 9, 0), 1, 1},
		{straightRoad(12, 0, 0, 3, 4), 1, 1},
		{roadOver(0, 0, 1, 1, 2, 2), 1, 1},
		{roadOver(0, 0, 1, 1, 2, 2, 3, 3), 423, 424}, // less than 1, because each part is rounded
		{roadOver(0, 0, 3, 0, 3, 4), 7, 5},
		{roadOver(0, 0, 3, 4, 6, 8, 6, 0), 3, 1},
		{roadOver(0, 0, 6, 0, 4, 0), 2, 1},
		{roadOver(0, 0, 1, 0, 1, 1), 200, 141},
		{roadOver(0, 0, 2, 0, 2, 2), 200, 141},
		{roadOver(0, 0, 1, 1, 2, 0), 141, 100},
		{roadOver(0, 0, 0, 1, 1, 1, 1, 0), 3, 1},
		{roadOver(0, 0, 9999, 9999, 1, 0), 2828073, 100},
		{roadOver(5, 5, 6, 5, 5, 5, 6, 5), 3, 1},
	} {
		checkDetour(t, c.road, c.num, c.den)
		checkDetour(t, backward(c.road), c.num, c.den)
		checkRoad(t, c.road)
	}
	checkNoDetour(t, roadOver(5, 5, 6, 5, 5, 5))
	checkNoDetour(t, roadOver(0, 0, 4, 0, 4, 3, 0, 0))
	checkNoDetour(t, roadOver(9999, 9999, 0, 0, 0, 1, 9999, 9999))
}

func TestCrossingsKnown(t *testing.T) {
	one := [][2]int{{0, 0}}
	for _, c := range []struct {
		name string
		a, b []impl.Corner
		want [][2]int
	}{
		{"inside", roadOver(0, 0, 4, 4), roadOver(0, 4, 4, 0), one},
		{"inside, not at a Corner's place", roadOver(0, 0, 1, 1), roadOver(0, 1, 1, 0), one},
		{"inside, upright", roadOver(2, 0, 2, 9), roadOver(0, 5, 7, 5), one},
		{"an end on a part", roadOver(0, 0, 8, 0), roadOver(3, 0, 3, 5), one},
		{"an end on a part, at a slant", roadOver(0, 0, 8, 4), roadOver(4, 2, 3, 9), one},
		{"an end near a part", roadOver(0, 0, 8, 4), roadOver(4, 3, 3, 9), nil},
		{"an end just behind the part", roadOver(0, 0, 8, 4), roadOver(10, 5, 3, 9), nil},
		{"end to end", roadOver(0, 0, 3, 4), roadOver(3, 4, 7, 1), one},
		{"end to end, straight on", roadOver(0, 0, 3, 4), roadOver(3, 4, 6, 8), one},
		{"beginning to beginning", roadOver(0, 0, 3, 4), roadOver(0, 0, 4, 3), one},
		{"at both ends", roadOver(0, 0, 3, 4), roadOver(3, 4, 0, 0), one},
		{"at both ends, of two parts", roadOver(0, 0, 6, 0), roadOver(0, 0, 3, 3, 6, 0), [][2]int{{0, 0}, {0, 1}}},
		{"the same", roadOver(0, 0, 3, 4), roadOver(0, 0, 3, 4), one},
		{"on one line apart", roadOver(0, 0, 3, 0), roadOver(4, 0, 7, 0), nil},
		{"on one line apart, upright", roadOver(5, 0, 5, 3), roadOver(5, 7, 5, 4), nil},
		{"on one line apart, at a slant", roadOver(0, 0, 2, 1), roadOver(4, 2, 6, 3), nil},
		{"on one line apart, falling", roadOver(0, 9, 2, 8), roadOver(6, 6, 4, 7), nil},
		{"on one line, one place", roadOver(0, 0, 3, 0), roadOver(7, 0, 3, 0), one},
		{"on one line, a stretch", roadOver(0, 0, 5, 0), roadOver(3, 0, 7, 0), one},
		{"on one line, a stretch at a slant", roadOver(0, 0, 6, 4), roadOver(9, 6, 3, 2), one},
		{"on one line, one inside the other", roadOver(0, 9, 9, 0), roadOver(5, 4, 3, 6), one},
		{"on one line, the whole and its half", roadOver(0, 0, 8, 8), roadOver(4, 4, 8, 8), one},
		{"parallel", roadOver(0, 0, 4, 4), roadOver(0, 1, 4, 5), nil},
		{"parallel, level", roadOver(0, 0, 4, 0), roadOver(0, 1, 4, 1), nil},
		{"parallel, the other way", roadOver(0, 0, 4, 2), roadOver(4, 3, 0, 1), nil},
		{"parallel, the longest", roadOver(0, 0, 9998, 9998), roadOver(1, 0, 9999, 9998), nil},
		{"only the line meets the other one", roadOver(0, 0, 2, 2), roadOver(0, 5, 5, 0), nil},
		{"only the other line meets it", roadOver(0, 5, 5, 0), roadOver(0, 0, 2, 2), nil},
		{"neither meets the other's line", roadOver(0, 0, 1, 2), roadOver(2, 0, 4, 1), nil},
		{"far away", roadOver(0, 0, 1, 1), roadOver(9999, 9999, 9998, 9999), nil},
		{"nearly", roadOver(0, 0, 9999, 9998), roadOver(5000, 5000, 5000, 9999), nil},
		{"nearly, on the other side", roadOver(0, 0, 9999, 9998), roadOver(5000, 4999, 5000, 0), nil},
		{"the longest", roadOver(0, 0, 9999, 9999), roadOver(0, 9999, 9999, 0), one},
		{"a ladder", roadOver(0, 0, 9, 0, 9, 4, 0, 4), roadOver(3, 9, 3, 2, 5, 2, 5, 9), [][2]int{{2, 0}, {2, 2}}},
		{"at a Corner inside", roadOver(0, 0, 4, 0, 8, 0), roadOver(4, 5, 4, 0), [][2]int{{0, 0}, {1, 0}}},
		{"Corner to Corner", roadOver(0, 0, 4, 0, 8, 0), roadOver(4, 5, 4, 0, 4, 9), [][2]int{{0, 0}, {0, 1}, {1, 0}, {1, 1}}},
		{"a comb", roadOver(0, 5, 9, 5), roadOver(1, 1, 1, 9, 3, 9, 3, 6, 5, 6, 5, 5), [][2]int{{0, 0}, {0, 4}}},
		{"a comb from its end", roadOver(5, 5, 5, 6, 3, 6, 3, 9, 1, 9, 1, 1), roadOver(0, 5, 9, 5), [][2]int{{0, 0}, {4, 0}}},
	} {
		checkCrossings(t, c.a, c.b, c.want)
		if !slices.Equal(crossingsByHand(c.a, c.b), c.want) {
			t.Errorf("%s: by hand %v", c.name, crossingsByHand(c.a, c.b))
		}
	}
}

// TestCrossingsOfLongRoads has all pairs of parts in common, and none of them.
func TestCrossingsOfLongRoads(t *testing.T) {
	upright := mapped(zigzag(0, 12), func(x, y int) (int, int) { return 100 + x, 9999 * y })
	level := mapped(zigzag(0, 12), func(x, y int) (int, int) { return 9999 * y, 100 + x })
	all := [][2]int{}
	for i := range 11 {
		for j := range 11 {
			all = append(all, [2]int{i, j})
		}
	}
	checkCrossings(t, upright, level, all)
	checkCrossings(t, level, upright, all)
	checkCrossings(t, zigzag(0, 12), zigzag(100, 12), nil)
	beside := [][2]int{}
	for i := range 11 {
		for j := max(0, i-1); j <= min(10, i+1); j++ {
			beside = append(beside, [2]int{i, j})
		}
	}
	checkCrossings(t, zigzag(0, 12), zigzag(0, 12), beside)
}

// TestCrossingsOfAllSmallParts has all pairs of parts in a square.
func TestCrossingsOfAllSmallParts(t *testing.T) {
	parts := [][]impl.Corner{}
	eachSmallRoad(2, 3, func(r []impl.Corner) { parts = append(parts, slices.Clone(r)) })
	for _, a := range parts {
		for _, b := range parts {
			checkCrossings(t, a, b, crossingsByHand(a, b))
		}
	}
}

func TestCrossingsOfManyRoads(t *testing.T) {
	roads := manyRoads()
	crossed := 0
	for i := range roads {
		for _, apart := range []int{0, 1, 7, 67} {
			a, b := roads[i], roads[(i+apart)%len(roads)]
			want := crossingsByHand(a, b)
			checkCrossings(t, a, b, want)
			crossed += len(want)
			for j := range want {
				want[j][0], want[j][1] = want[j][1], want[j][0]
			}
			slices.SortFunc(want, func(x, y [2]int) int { return slices.Compare(x[:], y[:]) })
			checkCrossings(t, b, a, want)
		}
	}
	if crossed < 1000 {
		t.Errorf("only %d pairs of parts cross", crossed)
	}
}

func TestClearKnown(t *testing.T) {
	for _, c := range []struct {
		name string
		road []impl.Corner
		want bool
	}{
		{"one part", roadOver(0, 0, 9999, 9999), true},
		{"two parts", roadOver(0, 0, 4, 0, 4, 3), true},
		{"straight on", roadOver(0, 0, 4, 0, 9, 0), true},
		{"straight on, all along", straightRoad(12, 0, 0, 3, 7), true},
		{"back", roadOver(0, 0, 4, 0, 2, 0), false},
		{"back to the beginning", roadOver(0, 0, 4, 0, 0, 0), false},
		{"back behind the beginning", roadOver(2, 0, 4, 0, 0, 0), false},
		{"back at a slant", roadOver(0, 0, 6, 4, 3, 2), false},
		{"back at last", roadOver(0, 0, 4, 0, 4, 4, 4, 2), false},
		{"back at first", roadOver(4, 2, 4, 4, 4, 0, 0, 0), false},
		{"a sharp bend", roadOver(0, 0, 9999, 9998, 1, 1), true},
		{"over itself", roadOver(0, 0, 4, 4, 4, 0, 0, 4), false},
		{"over itself, much later", roadOver(2, 0, 2, 9, 5, 9, 5, 1, 7, 1, 7, 5, 0, 5), false},
		{"an end on a part", roadOver(0, 0, 4, 0, 4, 4, 2, 4, 2, 0), false},
		{"an end just off a part", roadOver(0, 0, 4, 0, 4, 4, 2, 4, 2, 1), true},
		{"a Corner on a part", roadOver(0, 0, 4, 0, 4, 4, 2, 0, 0, 4), false},
		{"touches itself at a Corner", roadOver(0, 0, 2, 2, 4, 0, 6, 0, 6, 6, 2, 2), false},
		{"at a Corner of both", roadOver(0, 0, 2, 2, 4, 0, 6, 6, 2, 2, 0, 9), false},
		{"its last Corner is its first one", roadOver(0, 0, 4, 0, 4, 3, 0, 0), false},
		{"round a square", roadOver(0, 0, 4, 0, 4, 4, 0, 4, 0, 0), false},
		{"nearly round a square", roadOver(0, 0, 4, 0, 4, 4, 0, 4, 0, 1), true},
		{"the end on the first part's line", roadOver(1, 0, 4, 0, 4, 4, 0, 4, 0, 0), true},
		{"a stretch in common", roadOver(0, 0, 4, 0, 4, 4, 2, 4, 2, 0, 3, 0), false},
		{"a part in the line of another one", roadOver(0, 0, 4, 0, 4, 4, 6, 4, 6, 0, 9, 0), true},
		{"a serpent", roadOver(0, 0, 9, 0, 9, 1, 0, 1, 0, 2, 9, 2, 9, 3, 0, 3, 0, 4, 9, 4, 9, 5, 0, 5), true},
		{"a spiral", roadOver(0, 0, 9, 0, 9, 9, 0, 9, 0, 2, 7, 2, 7, 7, 2, 7, 2, 4, 5, 4, 5, 5, 3, 5), true},
		{"a spiral that goes too far", roadOver(0, 0, 9, 0, 9, 9, 0, 9, 0, 2, 7, 2, 7, 7, 2, 7, 2, 4, 5, 4, 5, 5, 2, 5), false},
		{"a zigzag", zigzag(0, 12), true},
		{"bends of each kind", handmadeRoad(), false},
	} {
		checkClear(t, c.road, c.want)
		checkClear(t, backward(c.road), c.want)
		if isClearByHand(c.road) != c.want {
			t.Errorf("%s: by hand %v", c.name, !c.want)
		}
		checkRoad(t, c.road)
	}
}

// TestAllSmallRoads tries all roads of a few Corners, so that all bends and touches are there.
func TestAllSmallRoads(t *testing.T) {
	for _, size := range [][2]int{{2, 4}, {3, 2}, {3, 3}, {4, 1}, {4, 2}, {5, 1}, {6, 1}} {
		eachSmallRoad(size[0], size[1], func(r []impl.Corner) { checkRoad(t, r) })
	}
}

func TestManyRoads(t *testing.T) {
	clear := 0
	roads := manyRoads()
	for _, r := range roads {
		checkRoad(t, r)
		checkRoad(t, backward(r))
		if is, ok := impl.IsClearRoad(r); ok && is {
			clear++
		}
	}
	if len(roads) < 700 || clear < 50 || len(roads)-clear < 50 {
		t.Errorf("%d roads, %d of them clear", len(roads), clear)
	}
}

// TestTurnedMaps turns the map over and round, which keeps all but the sides.
func TestTurnedMaps(t *testing.T) {
	for _, r := range manyRoads() {
		turned := mapped(r, func(x, y int) (int, int) { return 9999 - y, x })
		mirrored := mapped(r, func(x, y int) (int, int) { return y, x })
		length, _ := impl.RoadLength(r)
		checkLength(t, turned, length)
		checkLength(t, mirrored, length)
		checkBends(t, turned, bendsByHand(r))
		checkBends(t, mirrored, strings.NewReplacer("l", "r", "r", "l").Replace(bendsByHand(r)))
		clear, _ := impl.IsClearRoad(r)
		checkClear(t, turned, clear)
		checkClear(t, mirrored, clear)
	}
}

// callRoadFunctions calls each function of the chapter.
func callRoadFunctions(a, b []impl.Corner) {
	impl.IsRoadLine(a)
	impl.RoadLength(a)
	impl.BendsOf(a)
	impl.PlainRoad(a)
	impl.ReverseRoad(a)
	impl.IsClearRoad(a)
	impl.DetourOf(a)
	impl.JoinRoads(a, b)
	impl.JoinRoads(b, a)
	impl.CrossingParts(a, b)
	impl.CrossingParts(b, a)
	for _, n := range []int{smallest, -1, 0, 1, 100, 500, 1800, 100000, largest} {
		impl.AlongRoad(a, n)
	}
}

// TestRoadFunctionsLeaveTheRoadsAlone looks behind the ends of the lists as well.
func TestRoadFunctionsLeaveTheRoadsAlone(t *testing.T) {
	roads := manyRoads()
	for _, r := range invalidRoads() {
		roads = append(roads, r)
	}
	rest := roadOver(smallest, 77, 5, largest)
	for i, r := range roads {
		other := roads[(i+1)%len(roads)]
		if i%2 == 0 && len(r) > 0 {
			other = append(r[len(r)-1:len(r):len(r)], roadOver(1, 2, 3, 4)...) // so that it can be joined
		}
		given, second := slices.Concat(r, rest), slices.Concat(other, rest)
		callRoadFunctions(given[:len(r)], second[:len(other)])
		if !slices.Equal(given, slices.Concat(r, rest)) || !slices.Equal(second, slices.Concat(other, rest)) {
			t.Fatalf("%v and %v have become %v and %v", r, other, given, second)
		}
	}
}

// TestCornersBehindTheRoadAreNotThere cuts a road off, and joins roads that share memory.
func TestCornersBehindTheRoadAreNotThere(t *testing.T) {
	whole := roadOver(0, 0, 4, 0, 4, 4, 2, 4, 2, 0, 2, 0)
	if impl.IsRoadLine(whole) {
		t.Errorf("two that follow one another are the same")
	}
	checkRoad(t, whole[:5])
	checkRoad(t, whole[:3])
	checkClear(t, whole[:5], false)
	checkClear(t, whole[:4], true)
	checkJoined(t, whole[:2], whole[1:3], roadOver(0, 0, 4, 0, 4, 4))
	checkJoined(t, whole[:2], roadOver(4, 0, 9, 9), roadOver(0, 0, 4, 0, 9, 9))
	if whole[2] != (impl.Corner{X: 4, Y: 4}) {
		t.Errorf("%v", whole)
	}
	checkNoRoad(t, "only its first Corner", whole[:1])
	checkNoRoad(t, "none of its Corners", whole[:0])
}

// TestRoadResultsOwnTheirMemory spoils each result and asks again.
func TestRoadResultsOwnTheirMemory(t *testing.T) {
	for _, before := range manyRoads() {
		middle := len(before) / 2
		if middle == 0 || middle == len(before)-1 {
			continue
		}
		r := slices.Clone(before)
		crossings := crossingsByHand(before, before)
		for range 2 {
			plain, one := impl.PlainRoad(r)
			back, two := impl.ReverseRoad(r)
			joined, three := impl.JoinRoads(r[:middle+1], r[middle:])
			pairs, four := impl.CrossingParts(r, r)
			if !one || !two || !three || !four || !slices.Equal(r, before) || !slices.Equal(plain, plainByHand(before)) ||
				!slices.Equal(back, backward(before)) || !slices.Equal(joined, before) || !slices.Equal(pairs, crossings) {
				t.Fatalf("%v: %v, %v; %v, %v; %v, %v; %v, %v", r, plain, one, back, two, joined, three, pairs, four)
			}
			for _, road := range [][]impl.Corner{plain, back, joined} {
				for i := range road[:cap(road)] {
					road[:cap(road)][i] = impl.Corner{X: -77, Y: -77}
				}
			}
			for i := range pairs[:cap(pairs)] {
				pairs[:cap(pairs)][i] = [2]int{-77, -77}
			}
		}
	}
}
