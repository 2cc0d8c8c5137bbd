package tests

import (
	"slices"
	"testing"

	"loop.example/g01060/impl"
)

// terrain is a number of marks with Claims about them.
type terrain struct {
	n      int
	claims []impl.Claim
}

// claimsOf returns the Claims with these marks and heights, each Low, High, Least and Most.
func claimsOf(rows ...[4]int) []impl.Claim {
	claims := []impl.Claim{}
	for _, r := range rows {
		claims = append(claims, impl.Claim{Low: r[0], High: r[1], Least: r[2], Most: r[3]})
	}
	return claims
}

// sameClaims returns count times the same Claim about the marks 0 and 1.
func sameClaims(count int) []impl.Claim {
	return slices.Repeat(claimsOf([4]int{0, 1, 10, 20}), count)
}

// chainOf returns n - 1 Claims that lead from 0 to 1 and so on, each one with the same Least and
// Most. Every second one is told the other way round.
func chainOf(n, least, most int) []impl.Claim {
	claims := []impl.Claim{}
	for mark := range n - 1 {
		c := impl.Claim{Low: mark, High: mark + 1, Least: least, Most: most}
		if mark%2 == 1 {
			c = turnedClaim(c)
		}
		claims = append(claims, c)
	}
	return claims
}

// turnedClaim tells the same the other way round.
func turnedClaim(c impl.Claim) impl.Claim {
	return impl.Claim{Low: c.High, High: c.Low, Least: -c.Most, Most: -c.Least}
}

// hills returns a terrain in which all is told, with marks tied to 0 there and back, and with
// Claims that only matter together.
func hills() terrain {
	return terrain{5, claimsOf([4]int{0, 1, 10, 20}, [4]int{2, 1, -5, 5}, [4]int{0, 2, 18, 40}, [4]int{3, 0, 100, 100}, [4]int{4, 3, -50, 9999}, [4]int{2, 4, -9999, -120})}
}

// numbersFrom returns a function for numbers that look as if they came by chance.
func numbersFrom(n int) func(low, high int) int {
	return func(low, high int) int {
		n = (n*1103 + 12345) % 1000003
		return low + n/7%(high-low+1)
	}
}

// smallReach is the greatest Least and Most in smallTerrains, without their signs.
const smallReach = 2

// smallTerrains returns terrains of which all heights can be tried. Many contradict themselves.
func smallTerrains() []terrain {
	terrains := []terrain{{1, nil}, {2, nil}, {4, nil}}
	next := numbersFrom(5)
	for len(terrains) < 700 {
		x := terrain{n: next(2, 4)}
		for range next(0, 6) {
			low, least := next(0, x.n-1), next(-smallReach, smallReach)
			high := (low + next(1, x.n-1)) % x.n
			x.claims = append(x.claims, impl.Claim{Low: low, High: high, Least: least, Most: min(smallReach, least+next(0, 3))})
		}
		terrains = append(terrains, x)
	}
	return terrains
}

// greatTerrains returns terrains with many marks and Claims that hold for some heights, or all but
// one or two of them do.
func greatTerrains() []terrain {
	terrains := []terrain{hills(), {10, chainOf(10, 9999, 9999)}, {10, chainOf(10, -9999, 9999)}}
	next := numbersFrom(77)
	for len(terrains) < 1500 {
		x := terrain{n: next(2, 10)}
		heights := []int{0}
		for len(heights) < x.n {
			heights = append(heights, next(-4900, 4900))
		}
		slack := []int{0, 1, 30, 199}[next(0, 3)]
		for range next(0, 24) {
			low := next(0, x.n-1)
			high := (low + next(1, x.n-1)) % x.n
			rise := heights[high] - heights[low]
			x.claims = append(x.claims, impl.Claim{Low: low, High: high, Least: rise - next(0, slack), Most: rise + next(0, slack)})
		}
		for range min(next(0, 2), len(x.claims)) {
			at, by := next(0, len(x.claims)-1), next(-slack-1, slack+1)
			x.claims[at].Least, x.claims[at].Most = x.claims[at].Least+by, x.claims[at].Most+by
		}
		for i, c := range x.claims {
			x.claims[i].Least, x.claims[i].Most = max(-9999, c.Least), min(9999, c.Most)
		}
		terrains = append(terrains, x)
	}
	return terrains
}

// farTerrain makes the heights of a small one as great as they can be.
func farTerrain(x terrain) terrain {
	const factor = 9999 / smallReach
	far := terrain{n: x.n}
	for _, c := range x.claims {
		far.claims = append(far.claims, impl.Claim{Low: c.Low, High: c.High, Least: factor * c.Least, Most: factor * c.Most})
	}
	return far
}

func farHeights(heights []int) []int {
	far := []int{}
	for _, h := range heights {
		far = append(far, 9999/smallReach*h)
	}
	return far
}

// invalidTerrains returns terrains that are none. Those with marks have the marks 0 and 1.
func invalidTerrains() map[string]terrain {
	terrains := map[string]terrain{}
	add := func(name string, spoil func(c *impl.Claim)) {
		claims := claimsOf([4]int{0, 1, 10, 20}, [4]int{1, 2, 5, 5}, [4]int{0, 2, 20, 30})
		spoil(&claims[2])
		terrains[name] = terrain{3, claims}
	}
	add("Low and High are equal", func(c *impl.Claim) { c.High = 0 })
	add("Low and High are equal, and the rise 0", func(c *impl.Claim) { *c = impl.Claim{Low: 1, High: 1} })
	add("the zero Claim", func(c *impl.Claim) { *c = impl.Claim{} })
	add("High is n", func(c *impl.Claim) { c.High = 3 })
	add("Low is n", func(c *impl.Claim) { c.Low = 3 })
	add("High is -1", func(c *impl.Claim) { c.High = -1 })
	add("Low is -1", func(c *impl.Claim) { c.Low = -1 })
	add("the greatest marks", func(c *impl.Claim) { c.Low, c.High = smallest, largest })
	add("Least behind Most", func(c *impl.Claim) { c.Least, c.Most = 21, 20 })
	add("Least and Most turned", func(c *impl.Claim) { c.Least, c.Most = 30, 20 })
	add("Least of -10000", func(c *impl.Claim) { c.Least = -10000 })
	add("Most of 10000", func(c *impl.Claim) { c.Most = 10000 })
	add("both 10000", func(c *impl.Claim) { c.Least, c.Most = 10000, 10000 })
	add("both -10000", func(c *impl.Claim) { c.Least, c.Most = -10000, -10000 })
	add("the greatest heights", func(c *impl.Claim) { c.Least, c.Most = smallest, largest })
	good := claimsOf([4]int{0, 1, 10, 20})
	bad := claimsOf([4]int{0, 1, 10, 20}, [4]int{0, 1, 30, 40})
	for name, n := range map[string]int{"no marks": 0, "-1 marks": -1, "eleven marks": 11, "the fewest marks": smallest, "the most marks": largest, "2 and many marks": 1<<32 + 2} {
		terrains[name+", one Claim"] = terrain{n, good}
		terrains[name+", no Claims"] = terrain{n, nil}
		terrains[name+", not sound"] = terrain{n, bad}
	}
	terrains["one mark, a Claim about two"] = terrain{1, good}
	terrains["one mark, a Claim about itself"] = terrain{1, claimsOf([4]int{0, 0, 0, 0})}
	terrains["25 Claims"] = terrain{2, sameClaims(25)}
	terrains["25 Claims, not sound"] = terrain{2, append(sameClaims(24), bad[1])}
	terrains["very many Claims"] = terrain{2, sameClaims(100000)}
	return terrains
}

func holds(c impl.Claim, heights []int) bool {
	rise := heights[c.High] - heights[c.Low]
	return rise >= c.Least && rise <= c.Most
}

func brokenByHand(claims []impl.Claim, heights []int) []int {
	broken := []int{}
	for i, c := range claims {
		if !holds(c, heights) {
			broken = append(broken, i)
		}
	}
	return broken
}

// fitsByHand tries all heights in -reach..reach for all marks but 0 and returns those that fit.
func fitsByHand(x terrain, reach int) [][]int {
	fits := [][]int{}
	heights := make([]int, x.n)
	for mark := 1; mark < x.n; mark++ {
		heights[mark] = -reach
	}
	for {
		if len(brokenByHand(x.claims, heights)) == 0 {
			fits = append(fits, slices.Clone(heights))
		}
		mark := x.n - 1
		for mark > 0 && heights[mark] == reach {
			heights[mark] = -reach
			mark--
		}
		if mark <= 0 {
			return fits
		}
		heights[mark]++
	}
}

// edgeOf returns for each mark the height in any of the fits that is the best by the rule.
func edgeOf(fits [][]int, best func(a, b int) int) []int {
	edge := slices.Clone(fits[0])
	for _, heights := range fits {
		for mark, h := range heights {
			edge[mark] = best(edge[mark], h)
		}
	}
	return edge
}

func lower(a, b int) int  { return min(a, b) }
func higher(a, b int) int { return max(a, b) }

// lifted lifts the marks from below as far as the Claims make them, and fails if it never ends.
func lifted(claims []impl.Claim, heights []int) ([]int, bool) {
	heights = slices.Clone(heights)
	for range len(heights) + 1 {
		before := slices.Clone(heights)
		for _, c := range claims {
			heights[c.High] = max(heights[c.High], heights[c.Low]+c.Least)
			heights[c.Low] = max(heights[c.Low], heights[c.High]-c.Most)
		}
		if slices.Equal(before, heights) {
			return heights, true
		}
	}
	return nil, false
}

func isSoundByHand(x terrain) bool {
	_, ok := lifted(x.claims, make([]int, x.n))
	return ok
}

// lowestByHand is for sound Claims in which all marks are tied to the mark 0.
func lowestByHand(x terrain) []int {
	deep := slices.Repeat([]int{-1000000}, x.n)
	deep[0] = 0
	heights, _ := lifted(x.claims, deep)
	return heights
}

// highestByHand turns the terrain upside down.
func highestByHand(x terrain) []int {
	down := terrain{n: x.n}
	for _, c := range x.claims {
		down.claims = append(down.claims, impl.Claim{Low: c.Low, High: c.High, Least: -c.Most, Most: -c.Least})
	}
	return negated(lowestByHand(down))
}

func negated(numbers []int) []int {
	turned := []int{}
	for _, n := range numbers {
		turned = append(turned, -n)
	}
	return turned
}

func tiedByHand(x terrain, k int) []int {
	tied := map[int]bool{k: true}
	for range x.n {
		for _, c := range x.claims {
			if tied[c.Low] || tied[c.High] {
				tied[c.Low], tied[c.High] = true, true
			}
		}
	}
	marks := []int{}
	for mark := range x.n {
		if tied[mark] {
			marks = append(marks, mark)
		}
	}
	return marks
}

func culpritsByHand(x terrain) []int {
	culprits := []int{}
	for i := range x.claims {
		if isSoundByHand(terrain{x.n, slices.Delete(slices.Clone(x.claims), i, i+1)}) {
			culprits = append(culprits, i)
		}
	}
	return culprits
}

// checkTold checks the lowest and the highest heights, or that both are not told.
func checkTold(t *testing.T, name string, x terrain, lowest, highest []int) {
	t.Helper()
	low, one := impl.LowestHeights(x.n, x.claims)
	high, two := impl.HighestHeights(x.n, x.claims)
	told := lowest != nil
	if one != told || two != told || !slices.Equal(low, lowest) || !slices.Equal(high, highest) {
		t.Errorf("%s: the lowest %v, %v, not %v; the highest %v, %v, not %v", name, low, one, lowest, high, two, highest)
	}
}

func checkSound(t *testing.T, name string, x terrain, want bool) {
	t.Helper()
	if sound, ok := impl.AreSoundClaims(x.n, x.claims); !ok || sound != want {
		t.Errorf("%s: sound %v, %v, not %v", name, sound, ok, want)
	}
	culprits, ok := impl.Culprits(x.n, x.claims)
	if ok == want || want && len(culprits) != 0 {
		t.Errorf("%s: the culprits %v, %v", name, culprits, ok)
	}
	if !want {
		checkTold(t, name, x, nil, nil)
	}
}

// checkClaim checks one Claim by itself, and behind others.
func checkClaim(t *testing.T, n int, c impl.Claim, want bool) {
	t.Helper()
	if impl.AreClaims(n, []impl.Claim{c}) != want || n == 10 && impl.AreClaims(n, append(chainOf(10, 0, 0), c)) != want {
		t.Errorf("%+v about %d marks is valid: %v", c, n, !want)
	}
	if sound, ok := impl.AreSoundClaims(n, []impl.Claim{c}); ok != want || sound != want {
		t.Errorf("%+v about %d marks is sound: %v, %v", c, n, sound, ok)
	}
}

func TestClaimLimits(t *testing.T) {
	for _, c := range []struct {
		name      string
		low, high int
		set       func(c *impl.Claim, n int)
	}{
		{"Least", -9999, 50, func(c *impl.Claim, n int) { c.Least = n }},
		{"Most", -50, 9999, func(c *impl.Claim, n int) { c.Most = n }},
		{"Least and Most", -9999, 9999, func(c *impl.Claim, n int) { c.Least, c.Most = n, n }},
	} {
		for _, n := range []int{smallest, -10000, -9999, -9998, -51, -50, -49, -1, 0, 1, 49, 50, 51, 9998, 9999, 10000, 1 << 32, 1<<32 + 5, largest} {
			x := impl.Claim{Low: 3, High: 1, Least: -50, Most: 50}
			c.set(&x, n)
			checkClaim(t, 10, x, n >= c.low && n <= c.high)
		}
	}
	for _, limits := range [][2]int{{-9999, 9999}, {-9999, -9999}, {9999, 9999}, {0, 0}, {-9999, -9998}, {9998, 9999}} {
		checkClaim(t, 2, impl.Claim{High: 1, Least: limits[0], Most: limits[1]}, true)
	}
	for _, limits := range [][2]int{{9999, -9999}, {1, 0}, {0, -1}, {-9998, -9999}, {9999, 9998}, {-10000, 10000}, {-10000, -9999}, {9999, 10000}, {largest, smallest}, {largest, largest}, {smallest, smallest}} {
		checkClaim(t, 2, impl.Claim{High: 1, Least: limits[0], Most: limits[1]}, false)
	}
}

// TestClaimMarks checks all pairs of marks for all numbers of them.
func TestClaimMarks(t *testing.T) {
	marks := []int{smallest, -10, -1, 0, 1, 2, 3, 4, 5, 6, 7, 8, 9, 10, 11, 1 << 32, 1<<32 + 1, largest}
	for n := -1; n <= 12; n++ {
		for _, low := range marks {
			for _, high := range marks {
				want := n >= 1 && n <= 10 && low >= 0 && low < n && high >= 0 && high < n && low != high
				checkClaim(t, n, impl.Claim{Low: low, High: high, Least: 5, Most: 6}, want)
			}
		}
	}
}

func TestAreClaims(t *testing.T) {
	for _, n := range []int{smallest, smallest + 1, -10, -1, 0, 1, 2, 5, 9, 10, 11, 12, 1 << 32, 1<<32 + 1, largest} {
		want := n >= 1 && n <= 10
		if impl.AreClaims(n, nil) != want || impl.AreClaims(n, []impl.Claim{}) != want || impl.AreClaims(n, chainOf(2, 1, 2)) != (want && n > 1) {
			t.Errorf("%d marks: %v", n, !want)
		}
	}
	for count := range 30 {
		if impl.AreClaims(2, sameClaims(count)) != (count <= 24) || impl.AreClaims(10, sameClaims(count)) != (count <= 24) {
			t.Errorf("%d Claims: %v", count, count > 24)
		}
	}
	if impl.MaxMarks != 10 || impl.MaxClaims != 24 {
		t.Errorf("%d marks and %d Claims", impl.MaxMarks, impl.MaxClaims)
	}
	for _, x := range slices.Concat(smallTerrains(), greatTerrains()) {
		if !impl.AreClaims(x.n, x.claims) {
			t.Errorf("%v are rejected", x)
		}
	}
	for name, x := range invalidTerrains() {
		if impl.AreClaims(x.n, x.claims) {
			t.Errorf("%s: accepted", name)
		}
	}
}

// TestOneWrongClaim puts a wrong Claim at each place.
func TestOneWrongClaim(t *testing.T) {
	for at := range 24 {
		claims := sameClaims(24)
		claims[at] = impl.Claim{Low: 1, High: 1}
		if impl.AreClaims(2, claims) {
			t.Errorf("a wrong Claim at %d is accepted", at)
		}
	}
}

func TestInvalidClaimsFailEverywhere(t *testing.T) {
	for name, x := range invalidTerrains() {
		sound, one := impl.AreSoundClaims(x.n, x.claims)
		lowest, two := impl.LowestHeights(x.n, x.claims)
		highest, three := impl.HighestHeights(x.n, x.claims)
		culprits, four := impl.Culprits(x.n, x.claims)
		if one || two || three || four || sound || len(lowest)+len(highest)+len(culprits) != 0 {
			t.Errorf("%s: %v, %v; %v, %v; %v, %v; %v, %v", name, sound, one, lowest, two, highest, three, culprits, four)
		}
		for _, k := range []int{-1, 0, 1, 2, x.n - 1, x.n} {
			if tied, ok := impl.TiedMarks(x.n, x.claims, k); ok || len(tied) != 0 {
				t.Errorf("%s: %v, %v are tied to %d", name, tied, ok, k)
			}
		}
		for _, heights := range [][]int{nil, {}, {0}, {0, 15}, {0, 15, 20}, make([]int, 10), make([]int, 11), make([]int, 25)} {
			checkHeightsFail(t, name, x, heights)
		}
	}
}

func checkHeightsFail(t *testing.T, name string, x terrain, heights []int) {
	t.Helper()
	fit, one := impl.DoHeightsFit(x.n, x.claims, heights)
	broken, two := impl.BrokenClaims(x.n, x.claims, heights)
	if one || two || fit || len(broken) != 0 {
		t.Errorf("%s: the heights %v fit %v, %v; %v, %v are broken", name, heights, fit, one, broken, two)
	}
}

func TestOneMarkAlone(t *testing.T) {
	for _, claims := range [][]impl.Claim{nil, {}} {
		x := terrain{1, claims}
		checkSound(t, "one mark", x, true)
		checkTold(t, "one mark", x, []int{0}, []int{0})
		tied, one := impl.TiedMarks(1, claims, 0)
		fit, two := impl.DoHeightsFit(1, claims, []int{0})
		high, three := impl.DoHeightsFit(1, claims, []int{1})
		broken, four := impl.BrokenClaims(1, claims, []int{-7})
		if !one || !two || !three || !four || !slices.Equal(tied, []int{0}) || !fit || high || len(broken) != 0 {
			t.Errorf("%v, %v; %v, %v; %v, %v; %v, %v", tied, one, fit, two, high, three, broken, four)
		}
	}
}

func TestNoClaims(t *testing.T) {
	for n := 2; n <= 10; n++ {
		x := terrain{n: n}
		checkSound(t, "no Claims", x, true)
		checkTold(t, "no Claims", x, nil, nil)
		heights := slices.Repeat([]int{123}, n)
		fit, one := impl.DoHeightsFit(n, nil, heights)
		broken, two := impl.BrokenClaims(n, nil, heights)
		heights[0] = 0
		low, three := impl.DoHeightsFit(n, nil, heights)
		if !one || !two || !three || fit || !low || len(broken) != 0 {
			t.Errorf("%d marks: %v, %v; %v, %v; %v, %v", n, fit, one, broken, two, low, three)
		}
		for k := range n {
			if tied, ok := impl.TiedMarks(n, nil, k); !ok || !slices.Equal(tied, []int{k}) {
				t.Errorf("%d marks: %v, %v are tied to %d", n, tied, ok, k)
			}
		}
	}
}

// TestHeightsJustHold moves one height over both limits of a Claim, told both ways round.
func TestHeightsJustHold(t *testing.T) {
	for _, limits := range [][2]int{{10, 20}, {0, 0}, {-5, 5}, {-20, -10}, {9999, 9999}, {-9999, 9999}, {-9999, -9999}} {
		claim := impl.Claim{Low: 1, High: 2, Least: limits[0], Most: limits[1]}
		for _, base := range []int{-180000, -1, 0, 7, 180000} {
			for _, rise := range []int{limits[0] - 10000, limits[0] - 1, limits[0], limits[0] + 1, (limits[0] + limits[1]) / 2, limits[1] - 1, limits[1], limits[1] + 1, limits[1] + 10000} {
				want := rise >= limits[0] && rise <= limits[1]
				checkHolds(t, claim, []int{0, base, base + rise}, want)
				checkHolds(t, turnedClaim(claim), []int{0, base, base + rise}, want)
			}
		}
	}
}

func checkHolds(t *testing.T, c impl.Claim, heights []int, want bool) {
	t.Helper()
	broken := []int{0}
	if want {
		broken = nil
	}
	fit, one := impl.DoHeightsFit(3, []impl.Claim{c}, heights)
	told, two := impl.BrokenClaims(3, []impl.Claim{c}, heights)
	if !one || !two || fit != want || !slices.Equal(told, broken) {
		t.Errorf("%+v at %v: %v, %v; %v, %v", c, heights, fit, one, told, two)
	}
}

func TestHeightsThatAreNone(t *testing.T) {
	x := hills()
	fine := []int{0, 20, 20, -100, -110}
	if fit, ok := impl.DoHeightsFit(x.n, x.claims, fine); !ok || !fit {
		t.Fatalf("%v do not fit: %v", fine, ok)
	}
	for count := range 12 {
		if count != x.n {
			checkHeightsFail(t, "a wrong number", x, append(slices.Clone(fine), make([]int, 12)...)[:count])
		}
	}
	checkHeightsFail(t, "a wrong number", x, make([]int, 100000))
	checkHeightsFail(t, "none", x, nil)
	for mark := range x.n {
		for _, h := range []int{smallest, -1 << 32, -200001, -200000, 200000, 200001, 1 << 32, largest} {
			heights := slices.Clone(fine)
			heights[mark] = h
			if h < -200000 || h > 200000 {
				checkHeightsFail(t, "a height outside", x, heights)
				continue
			}
			fit, one := impl.DoHeightsFit(x.n, x.claims, heights)
			broken, two := impl.BrokenClaims(x.n, x.claims, heights)
			if !one || !two || fit || !slices.Equal(broken, brokenByHand(x.claims, heights)) || len(broken) == 0 {
				t.Errorf("%v: %v, %v; %v, %v", heights, fit, one, broken, two)
			}
		}
	}
	for _, h := range []int{-200000, 200000} {
		if fit, ok := impl.DoHeightsFit(2, nil, []int{0, h}); !ok || !fit {
			t.Errorf("the height %d: %v, %v", h, fit, ok)
		}
		if fit, ok := impl.DoHeightsFit(2, nil, []int{h, 0}); !ok || fit {
			t.Errorf("the height %d of 0: %v, %v", h, fit, ok)
		}
	}
}

// TestHeightsNotFrom0 lifts heights that fit, which breaks no Claim.
func TestHeightsNotFrom0(t *testing.T) {
	x := hills()
	for _, by := range []int{-199000, -1, 0, 1, 199000} {
		heights := []int{0, 20, 20, -100, -110}
		for mark := range heights {
			heights[mark] += by
		}
		fit, one := impl.DoHeightsFit(x.n, x.claims, heights)
		broken, two := impl.BrokenClaims(x.n, x.claims, heights)
		if !one || !two || fit != (by == 0) || len(broken) != 0 {
			t.Errorf("lifted by %d: %v, %v; %v, %v", by, fit, one, broken, two)
		}
	}
	heights := []int{1, 20, 20, -100, -110}
	if broken, ok := impl.BrokenClaims(x.n, x.claims, heights); !ok || !slices.Equal(broken, []int{3}) {
		t.Errorf("only the mark 0 is lifted: %v, %v", broken, ok)
	}
}

func TestBrokenClaimsKnown(t *testing.T) {
	x := hills()
	for _, c := range []struct {
		heights []int
		want    []int
	}{
		{[]int{0, 20, 20, -100, -110}, nil},
		{[]int{0, 10, 15, -100, -110}, []int{2}},
		{[]int{0, 9, 18, -100, -110}, []int{0, 1}},
		{[]int{0, 0, 0, 0, 0}, []int{0, 2, 3, 5}},
		{[]int{0, 21, 41, -101, -51}, []int{0, 1, 2, 3, 5}},
		{[]int{0, 21, 41, -102, 0}, []int{0, 1, 2, 3, 4, 5}},
	} {
		if broken, ok := impl.BrokenClaims(x.n, x.claims, c.heights); !ok || !slices.Equal(broken, c.want) {
			t.Errorf("%v: %v, %v", c.heights, broken, ok)
		}
		if fit, ok := impl.DoHeightsFit(x.n, x.claims, c.heights); !ok || fit != (c.want == nil) {
			t.Errorf("%v: %v, %v", c.heights, fit, ok)
		}
	}
	if broken, ok := impl.BrokenClaims(2, sameClaims(24), []int{0, 9}); !ok || !slices.Equal(broken, idsFrom(0, 24)) {
		t.Errorf("the same Claim broken: %v, %v", broken, ok)
	}
	bad := claimsOf([4]int{0, 1, 5, 6}, [4]int{0, 1, 7, 8})
	for h, want := range map[int][]int{4: {0, 1}, 5: {1}, 6: {1}, 7: {0}, 8: {0}, 9: {0, 1}} {
		broken, one := impl.BrokenClaims(2, bad, []int{0, h})
		fit, two := impl.DoHeightsFit(2, bad, []int{0, h})
		if !one || !two || fit || !slices.Equal(broken, want) {
			t.Errorf("not sound, at %d: %v, %v; %v, %v", h, broken, one, fit, two)
		}
	}
}

// TestCircles goes up all around a circle of marks, and at one place down by as much, by one less
// or more, and by much.
func TestCircles(t *testing.T) {
	for n := 2; n <= 10; n++ {
		for _, step := range []int{-1000, -7, 0, 1, 1000} {
			sum := step * (n - 1)
			for _, off := range []int{-999, -2, -1, 0, 1, 2, 999} {
				back := impl.Claim{Low: n - 1, High: 0, Least: -sum + off, Most: -sum + off}
				for _, c := range []impl.Claim{back, turnedClaim(back)} {
					x := terrain{n, append(chainOf(n, step, step), c)}
					checkSound(t, "a circle", x, off == 0)
					culprits, ok := impl.Culprits(n, x.claims)
					if off != 0 && (!ok || !slices.Equal(culprits, idsFrom(0, n))) {
						t.Errorf("%d marks, %d and %d more: %v, %v", n, step, off, culprits, ok)
					}
				}
			}
		}
	}
}

// TestCirclesWithRoom has rises of 3 to 5 each, and a Claim that just touches what they allow.
func TestCirclesWithRoom(t *testing.T) {
	for n := 2; n <= 10; n++ {
		least, most := 3*(n-1), 5*(n-1)
		for _, c := range []struct {
			low, high int
			want      bool
		}{
			{most, most, true}, {most, 9999, true}, {most + 1, most + 1, false}, {most + 1, 9999, false}, {9999, 9999, false},
			{least, least, true}, {-9999, least, true}, {least - 1, least - 1, false}, {-9999, least - 1, false}, {-9999, -9999, false},
			{least, most, true}, {-9999, 9999, true}, {least + 1, least + 1, true}, {most - 1, most - 1, true},
		} {
			last := impl.Claim{Low: 0, High: n - 1, Least: c.low, Most: c.high}
			for _, claims := range [][]impl.Claim{
				append(chainOf(n, 3, 5), last), append([]impl.Claim{last}, chainOf(n, 3, 5)...),
				append(chainOf(n, 3, 5), turnedClaim(last)), append([]impl.Claim{turnedClaim(last)}, chainOf(n, 3, 5)...),
			} {
				checkSound(t, "a circle with room", terrain{n, claims}, c.want)
			}
		}
	}
}

// TestSoundnessApartFrom0 has a contradiction, or none, among marks that are not tied to 0.
func TestSoundnessApartFrom0(t *testing.T) {
	claims := claimsOf([4]int{0, 1, 5, 5}, [4]int{2, 3, 5, 6}, [4]int{3, 4, 5, 6}, [4]int{4, 2, -12, -9})
	checkSound(t, "apart", terrain{5, claims}, true)
	checkTold(t, "apart", terrain{5, claims}, nil, nil)
	claims[3].Most, claims[3].Least = -13, -13
	checkSound(t, "apart and not sound", terrain{5, claims}, false)
	if culprits, ok := impl.Culprits(5, claims); !ok || !slices.Equal(culprits, []int{1, 2, 3}) {
		t.Errorf("apart: the culprits %v, %v", culprits, ok)
	}
	claims = claimsOf([4]int{8, 9, 9999, 9999}, [4]int{9, 8, 9999, 9999})
	checkSound(t, "the last two marks", terrain{10, claims}, false)
	checkSound(t, "a pair that is not tied", terrain{10, claims[:1]}, true)
}

func TestCulpritsKnown(t *testing.T) {
	for _, c := range []struct {
		name string
		x    terrain
		want []int
	}{
		{"two", terrain{2, claimsOf([4]int{0, 1, 10, 20}, [4]int{1, 0, -40, -30})}, []int{0, 1}},
		{"two by one", terrain{2, claimsOf([4]int{0, 1, 10, 20}, [4]int{0, 1, 21, 30})}, []int{0, 1}},
		{"one does not matter", terrain{3, claimsOf([4]int{0, 2, 1, 2}, [4]int{0, 1, 10, 20}, [4]int{0, 1, 21, 30})}, []int{1, 2}},
		{"one against two", terrain{2, claimsOf([4]int{0, 1, 10, 20}, [4]int{0, 1, 30, 40}, [4]int{0, 1, 35, 45})}, []int{0}},
		{"one against 23", terrain{2, append(sameClaims(23), claimsOf([4]int{0, 1, 21, 30})...)}, []int{23}},
		{"one against 22, in their midst", terrain{2, slices.Concat(sameClaims(7), claimsOf([4]int{0, 1, 21, 30}), sameClaims(15))}, []int{7}},
		{"the same twice on both sides", terrain{2, claimsOf([4]int{0, 1, 1, 1}, [4]int{0, 1, 1, 1}, [4]int{0, 1, 2, 2}, [4]int{0, 1, 2, 2})}, nil},
		{"three that exclude one another", terrain{2, claimsOf([4]int{0, 1, 1, 1}, [4]int{0, 1, 2, 2}, [4]int{0, 1, 3, 3})}, nil},
		{"two pairs", terrain{4, claimsOf([4]int{0, 1, 1, 1}, [4]int{0, 1, 2, 2}, [4]int{2, 3, 1, 1}, [4]int{2, 3, 2, 2})}, nil},
		{"two circles that share one", terrain{4, claimsOf([4]int{0, 1, 5, 5}, [4]int{1, 2, 5, 5}, [4]int{2, 0, -9, -9}, [4]int{1, 3, 5, 5}, [4]int{3, 0, -9, -9})}, []int{0}},
		{"two circles that share two", terrain{4, claimsOf([4]int{0, 1, 5, 5}, [4]int{1, 2, 5, 5}, [4]int{2, 0, -9, -9}, [4]int{2, 3, 5, 5}, [4]int{3, 0, -14, -14})}, []int{0, 1}},
		{"three circles that share one", terrain{5, claimsOf([4]int{2, 1, 0, 0}, [4]int{1, 0, 5, 9999}, [4]int{0, 2, -4, 9999}, [4]int{1, 3, 5, 5}, [4]int{3, 2, -4, 0}, [4]int{1, 4, 5, 5}, [4]int{4, 2, -4, 0})}, []int{0}},
		{"circles that share none", terrain{5, claimsOf([4]int{0, 1, 5, 5}, [4]int{1, 2, 5, 5}, [4]int{2, 0, -9, -9}, [4]int{0, 3, 5, 5}, [4]int{3, 4, 5, 5}, [4]int{4, 0, -9, -9})}, nil},
		{"a circle that a Claim mends no more", terrain{3, claimsOf([4]int{0, 1, 5, 6}, [4]int{1, 2, 5, 6}, [4]int{0, 2, 13, 20}, [4]int{0, 1, -9999, 9999})}, []int{0, 1, 2}},
	} {
		culprits, ok := impl.Culprits(c.x.n, c.x.claims)
		if !ok || !slices.Equal(culprits, c.want) {
			t.Errorf("%s: %v, %v, not %v", c.name, culprits, ok, c.want)
		}
		checkSound(t, c.name, c.x, false)
	}
}

func TestHeightsKnown(t *testing.T) {
	for _, c := range []struct {
		name            string
		x               terrain
		lowest, highest []int
	}{
		{"hills", hills(), []int{0, 13, 18, -100, -9981}, []int{0, 20, 25, -100, -95}},
		{"two marks", terrain{2, claimsOf([4]int{0, 1, 10, 20})}, []int{0, 10}, []int{0, 20}},
		{"two marks the other way round", terrain{2, claimsOf([4]int{1, 0, 10, 20})}, []int{0, -20}, []int{0, -10}},
		{"below 0", terrain{2, claimsOf([4]int{0, 1, -9999, -9999})}, []int{0, -9999}, []int{0, -9999}},
		{"all the way", terrain{2, claimsOf([4]int{0, 1, -9999, 9999})}, []int{0, -9999}, []int{0, 9999}},
		{"the same 24 times", terrain{2, sameClaims(24)}, []int{0, 10}, []int{0, 20}},
		{"two that overlap", terrain{2, claimsOf([4]int{0, 1, 10, 20}, [4]int{0, 1, 15, 30})}, []int{0, 15}, []int{0, 20}},
		{"two that overlap, turned", terrain{2, claimsOf([4]int{0, 1, 10, 20}, [4]int{1, 0, -30, -15})}, []int{0, 15}, []int{0, 20}},
		{"two that just touch", terrain{2, claimsOf([4]int{0, 1, 10, 20}, [4]int{1, 0, -30, -20})}, []int{0, 20}, []int{0, 20}},
		{"one in the other", terrain{2, claimsOf([4]int{0, 1, 12, 13}, [4]int{0, 1, 10, 20})}, []int{0, 12}, []int{0, 13}},
		{"a chain", terrain{3, claimsOf([4]int{0, 1, 1, 2}, [4]int{1, 2, 10, 20})}, []int{0, 1, 11}, []int{0, 2, 22}},
		{"a chain that ends in 0", terrain{3, claimsOf([4]int{2, 1, 1, 2}, [4]int{1, 0, 10, 20})}, []int{0, -20, -22}, []int{0, -10, -11}},
		{"a chain backwards in the list", terrain{4, claimsOf([4]int{2, 3, 1, 2}, [4]int{1, 2, 1, 2}, [4]int{0, 1, 1, 2})}, []int{0, 1, 2, 3}, []int{0, 2, 4, 6}},
		{"a far mark tightens the others", terrain{3, claimsOf([4]int{0, 1, 0, 100}, [4]int{1, 2, 0, 100}, [4]int{0, 2, 195, 300})}, []int{0, 95, 195}, []int{0, 100, 200}},
		{"a far mark at 0 tightens the others", terrain{3, claimsOf([4]int{0, 1, 0, 100}, [4]int{1, 2, 0, 100}, [4]int{0, 2, -5, 4})}, []int{0, 0, 0}, []int{0, 4, 4}},
	} {
		checkTold(t, c.name, c.x, c.lowest, c.highest)
	}
}

// TestLongChains has the greatest heights that can be told.
func TestLongChains(t *testing.T) {
	for n := 1; n <= 10; n++ {
		up, down := []int{}, []int{}
		for mark := range n {
			up, down = append(up, 9999*mark), append(down, -9999*mark)
		}
		checkTold(t, "up", terrain{n, chainOf(n, 9999, 9999)}, up, up)
		checkTold(t, "down", terrain{n, chainOf(n, -9999, -9999)}, down, down)
		checkTold(t, "any way", terrain{n, chainOf(n, -9999, 9999)}, down, up)
		claims := chainOf(n, -9999, 9999)
		slices.Reverse(claims)
		checkTold(t, "any way, from the end", terrain{n, claims}, down, up)
	}
	// The mark 0 in the midst of the chain 8 6 4 2 0 1 3 5 7 9.
	claims, lowest, highest := claimsOf([4]int{0, 1, -9999, 9999}), []int{0, -9999}, []int{0, 9999}
	for mark := 2; mark < 10; mark++ {
		claims = append(claims, impl.Claim{Low: mark, High: mark - 2, Least: -9999, Most: 9999})
		rise := 9999 * ((mark + 1) / 2)
		lowest, highest = append(lowest, -rise), append(highest, rise)
	}
	checkTold(t, "0 in the midst", terrain{10, claims}, lowest, highest)
}

// TestUntiedHeights leaves out each Claim of a chain, so that the marks behind it are not tied.
func TestUntiedHeights(t *testing.T) {
	for n := 2; n <= 10; n++ {
		for at := range n - 1 {
			claims := slices.Delete(chainOf(n, 1, 2), at, at+1)
			checkSound(t, "a chain with a gap", terrain{n, claims}, true)
			checkTold(t, "a chain with a gap", terrain{n, claims}, nil, nil)
		}
		if n < 10 {
			checkTold(t, "one mark more", terrain{n + 1, chainOf(n, 1, 2)}, nil, nil)
		}
	}
}

func TestTiedMarksKnown(t *testing.T) {
	x := terrain{7, claimsOf([4]int{4, 2, 0, 1}, [4]int{5, 6, 0, 1}, [4]int{0, 4, 0, 1}, [4]int{2, 3, 0, 1}, [4]int{5, 6, 7, 9})}
	for k, want := range [][]int{{0, 2, 3, 4}, {1}, {0, 2, 3, 4}, {0, 2, 3, 4}, {0, 2, 3, 4}, {5, 6}, {5, 6}} {
		if tied, ok := impl.TiedMarks(x.n, x.claims, k); !ok || !slices.Equal(tied, want) {
			t.Errorf("tied to %d: %v, %v", k, tied, ok)
		}
	}
	for n := 1; n <= 10; n++ {
		claims := chainOf(n, -1, 1)
		for k := range n {
			one, first := impl.TiedMarks(n, claims, k)
			slices.Reverse(claims)
			two, second := impl.TiedMarks(n, claims, k)
			if !first || !second || !slices.Equal(one, idsFrom(0, n)) || !slices.Equal(two, one) {
				t.Errorf("%d in a chain of %d: %v, %v; %v, %v", k, n, one, first, two, second)
			}
		}
	}
}

func TestMarksThatAreNone(t *testing.T) {
	for n := 1; n <= 10; n++ {
		for _, k := range []int{smallest, -10, -1, 0, 1, 2, 3, 4, 5, 6, 7, 8, 9, 10, 11, 1 << 32, 1<<32 + 1, largest} {
			want := k >= 0 && k < n
			tied, one := impl.TiedMarks(n, chainOf(n, 1, 2), k)
			alone, two := impl.TiedMarks(n, nil, k)
			if one != want || two != want || (len(tied) == n) != want || (len(alone) == 1) != want || !want && len(tied)+len(alone) != 0 {
				t.Errorf("%d of %d marks: %v, %v; %v, %v", k, n, tied, one, alone, two)
			}
		}
	}
}

// TestLowestAndHighestHeightsFit checks promise 8.
func TestLowestAndHighestHeightsFit(t *testing.T) {
	told := 0
	terrains := slices.Concat(smallTerrains(), greatTerrains())
	for _, x := range smallTerrains() {
		terrains = append(terrains, farTerrain(x))
	}
	for _, x := range terrains {
		lowest, one := impl.LowestHeights(x.n, x.claims)
		highest, two := impl.HighestHeights(x.n, x.claims)
		want := isSoundByHand(x) && len(tiedByHand(x, 0)) == x.n
		if one != want || two != want || !want && len(lowest)+len(highest) != 0 {
			t.Errorf("%v: %v, %v; %v, %v, not %v", x, lowest, one, highest, two, want)
		}
		if !want {
			continue
		}
		told++
		for _, heights := range [][]int{lowest, highest} {
			fit, ok := impl.DoHeightsFit(x.n, x.claims, heights)
			if !ok || !fit || heights[0] != 0 || len(brokenByHand(x.claims, heights)) != 0 {
				t.Errorf("%v: %v fit %v, %v", x, heights, fit, ok)
			}
		}
		for mark := range x.n {
			if lowest[mark] > highest[mark] {
				t.Errorf("%v: %v and %v", x, lowest, highest)
			}
		}
	}
	if told < 500 || len(terrains)-told < 500 {
		t.Errorf("heights of %d terrains of %d", told, len(terrains))
	}
}

// TestAllHeightsTried compares with all heights that fit, and goes on to the greatest heights.
func TestAllHeightsTried(t *testing.T) {
	told, bad := 0, 0
	for _, x := range smallTerrains() {
		fits := fitsByHand(x, smallReach*(x.n-1))
		checkSound(t, "small", x, len(fits) > 0)
		checkSound(t, "far", farTerrain(x), len(fits) > 0)
		if len(fits) == 0 {
			bad++
			checkCulprits(t, x)
			continue
		}
		if len(tiedByHand(x, 0)) < x.n {
			checkTold(t, "small", x, nil, nil)
			checkTold(t, "far", farTerrain(x), nil, nil)
			continue
		}
		told++
		lowest, highest := edgeOf(fits, lower), edgeOf(fits, higher)
		checkTold(t, "small", x, lowest, highest)
		checkTold(t, "far", farTerrain(x), farHeights(lowest), farHeights(highest))
	}
	if told < 100 || bad < 100 {
		t.Errorf("%d told, %d not sound", told, bad)
	}
}

// checkCulprits tries all heights without each one of the Claims.
func checkCulprits(t *testing.T, x terrain) {
	t.Helper()
	want := []int{}
	for i := range x.claims {
		rest := terrain{x.n, slices.Delete(slices.Clone(x.claims), i, i+1)}
		if len(fitsByHand(rest, smallReach*(x.n-1))) > 0 {
			want = append(want, i)
		}
	}
	one, first := impl.Culprits(x.n, x.claims)
	two, second := impl.Culprits(x.n, farTerrain(x).claims)
	if !first || !second || !slices.Equal(one, want) || !slices.Equal(two, want) {
		t.Errorf("%v: the culprits %v, %v and %v, %v, not %v", x, one, first, two, second, want)
	}
}

func TestManyMarksAndClaims(t *testing.T) {
	told, with, none := 0, 0, 0
	for _, x := range greatTerrains() {
		sound := isSoundByHand(x)
		checkSound(t, "great", x, sound)
		if !sound {
			want := culpritsByHand(x)
			culprits, ok := impl.Culprits(x.n, x.claims)
			if !ok || !slices.Equal(culprits, want) {
				t.Errorf("%v: the culprits %v, %v, not %v", x, culprits, ok, want)
			}
			with, none = with+min(len(want), 1), none+1-min(len(want), 1)
		} else if len(tiedByHand(x, 0)) == x.n {
			told++
			checkTold(t, "great", x, lowestByHand(x), highestByHand(x))
		} else {
			checkTold(t, "great", x, nil, nil)
		}
	}
	if told < 200 || with < 100 || none < 20 {
		t.Errorf("%d told, %d with culprits, %d without", told, with, none)
	}
}

func TestTiedMarksOfMany(t *testing.T) {
	for _, x := range slices.Concat(smallTerrains(), greatTerrains()) {
		for k := range x.n {
			want := tiedByHand(x, k)
			if tied, ok := impl.TiedMarks(x.n, x.claims, k); !ok || !slices.Equal(tied, want) {
				t.Errorf("%v: %v, %v are tied to %d, not %v", x, tied, ok, k, want)
			}
		}
	}
}

func TestBrokenClaimsOfMany(t *testing.T) {
	next := numbersFrom(9)
	fits := 0
	for _, x := range slices.Concat(smallTerrains(), greatTerrains()) {
		heights := make([]int, x.n)
		if lowest, ok := impl.LowestHeights(x.n, x.claims); ok {
			copy(heights, lowest)
		}
		for range 4 {
			want := brokenByHand(x.claims, heights)
			broken, one := impl.BrokenClaims(x.n, x.claims, heights)
			fit, two := impl.DoHeightsFit(x.n, x.claims, heights)
			if !one || !two || !slices.Equal(broken, want) || fit != (len(want) == 0 && heights[0] == 0) {
				t.Errorf("%v at %v: %v, %v; %v, %v", x, heights, broken, one, fit, two)
			}
			if fit {
				fits++
			}
			heights[next(0, x.n-1)] += next(-2, 2)
		}
	}
	if fits < 500 {
		t.Errorf("%d heights that fit", fits)
	}
}

func TestContoursBetweenKnown(t *testing.T) {
	for _, c := range []struct{ a, b, step, want int }{
		{5, 40, 10, 4}, {5, 39, 10, 3}, {10, 20, 10, 1}, {10, 19, 10, 0}, {9, 10, 10, 1}, {10, 11, 10, 0}, {9, 20, 10, 2}, // upwards
		{0, 0, 10, 0}, {10, 10, 10, 0}, {-10, -10, 10, 0}, {7, 7, 1, 0}, {200000, 200000, 1, 0}, {-200000, -200000, 1, 0}, // equal
		{-5, 5, 10, 1}, {-5, 0, 10, 1}, {-5, -1, 10, 0}, {0, 5, 10, 0}, {-1, 1, 1000, 1}, {-10, 10, 10, 2}, {-11, 9, 10, 2}, {-1, 0, 1, 1}, // across 0
		{-15, -11, 10, 0}, {-15, -10, 10, 1}, {-20, -11, 10, 0}, {-20, -10, 10, 1}, {-21, -20, 10, 1}, {-21, -10, 10, 2}, {-9, -1, 10, 0}, {-10, -9, 10, 0}, // below 0
		{0, 1000, 1000, 1}, {0, 999, 1000, 0}, {-1000, -1, 1000, 0}, {-1000, 0, 1000, 1}, {-1001, 0, 1000, 2},
		{-200000, 200000, 1, 400000}, {-200000, 200000, 1000, 400}, {-199999, 200000, 1000, 400}, {-200000, 199999, 1000, 399}, {-200000, 200000, 7, 57143}, {0, 200000, 999, 200},
	} {
		up, one := impl.ContoursBetween(c.a, c.b, c.step)
		down, two := impl.ContoursBetween(c.b, c.a, c.step)
		if !one || !two || up != c.want || down != c.want {
			t.Errorf("%d to %d by %d: %d, %v; back %d, %v; not %d", c.a, c.b, c.step, up, one, down, two, c.want)
		}
	}
}

// TestContoursCounted looks at each height for whether it is a contour.
func TestContoursCounted(t *testing.T) {
	for _, step := range []int{1, 2, 3, 7, 10, 999, 1000} {
		for _, a := range []int{-2000, -1001, -21, -20, -19, -3, -1, 0, 1, 2, 14, 15, 1000, 1999} {
			count := 0
			for b := a; b <= a+2100; b++ {
				if b > a && b%step == 0 {
					count++
				}
				up, one := impl.ContoursBetween(a, b, step)
				down, two := impl.ContoursBetween(b, a, step)
				if !one || !two || up != count || down != count {
					t.Fatalf("%d to %d by %d: %d, %v; %d, %v; not %d", a, b, step, up, one, down, two, count)
				}
			}
		}
	}
}

func TestContoursBetweenLimits(t *testing.T) {
	for _, h := range []int{smallest, -1 << 32, -200001, -200000, -199999, 0, 199999, 200000, 200001, 1 << 32, largest} {
		want := h >= -200000 && h <= 200000
		for _, pair := range [][2]int{{h, 5}, {5, h}, {h, h}} {
			if count, ok := impl.ContoursBetween(pair[0], pair[1], 10); ok != want || !want && count != 0 {
				t.Errorf("%v: %d, %v", pair, count, ok)
			}
		}
	}
	for _, step := range []int{smallest, -1000, -10, -1, 0, 1, 2, 999, 1000, 1001, 1 << 32, 1<<32 + 10, largest} {
		want := step >= 1 && step <= 1000
		count, one := impl.ContoursBetween(-2000, 2000, step)
		equal, two := impl.ContoursBetween(0, 0, step)
		if one != want || two != want || (count > 0) != want || equal != 0 {
			t.Errorf("a step of %d: %d, %v; %d, %v", step, count, one, equal, two)
		}
	}
}

func TestClaimOfContoursKnown(t *testing.T) {
	for _, c := range []struct{ count, step, least, most int }{
		{2, 10, 11, 29}, {0, 10, 0, 9}, {1, 10, 1, 19}, {9, 10, 81, 99}, {3, 10, 21, 39},
		{0, 1, 0, 0}, {1, 1, 1, 1}, {2, 1, 2, 2}, {9, 1, 9, 9}, {0, 2, 0, 1}, {1, 2, 1, 3},
		{0, 1000, 0, 999}, {1, 1000, 1, 1999}, {8, 1000, 7001, 8999}, {9, 1000, 8001, 9999}, {9, 999, 7993, 9989},
	} {
		for _, marks := range [][2]int{{0, 1}, {1, 0}, {0, 9}, {9, 0}, {8, 9}, {4, 7}} {
			want := impl.Claim{Low: marks[0], High: marks[1], Least: c.least, Most: c.most}
			if x, ok := impl.ClaimOfContours(marks[0], marks[1], c.count, c.step); !ok || x != want {
				t.Errorf("%d by %d: %+v, %v, not %+v", c.count, c.step, x, ok, want)
			}
			if !impl.AreClaims(10, []impl.Claim{want}) {
				t.Errorf("no Claim: %+v", want)
			}
		}
	}
}

// TestClaimOfContoursLimits has, among others, a Most of 9999, the greatest one of all counts and
// steps: a greater Most comes only with a count or a step that is not valid itself.
func TestClaimOfContoursLimits(t *testing.T) {
	counts := []int{smallest, -10, -1, 0, 1, 5, 8, 9, 10, 11, 1 << 32, 1<<32 + 1, largest - 1, largest}
	steps := []int{smallest, -1000, -1, 0, 1, 2, 908, 909, 910, 999, 1000, 1001, 1 << 32, 1<<32 + 10, 1 << 62, largest}
	for _, count := range counts {
		for _, step := range steps {
			want := count >= 0 && count <= 9 && step >= 1 && step <= 1000
			c, ok := impl.ClaimOfContours(2, 5, count, step)
			if ok != want || (c != impl.Claim{}) != want {
				t.Errorf("%d by %d: %+v, %v", count, step, c, ok)
			}
		}
	}
	marks := []int{smallest, -10, -1, 0, 1, 5, 8, 9, 10, 11, 1 << 32, 1<<32 + 1, largest}
	for _, low := range marks {
		for _, high := range marks {
			want := low >= 0 && low <= 9 && high >= 0 && high <= 9 && low != high
			c, ok := impl.ClaimOfContours(low, high, 2, 10)
			if ok != want || (c != impl.Claim{}) != want {
				t.Errorf("from %d to %d: %+v, %v", low, high, c, ok)
			}
		}
	}
}

// TestClaimOfContoursIsWhatTheyTell tries from where one goes up how far over just so many.
func TestClaimOfContoursIsWhatTheyTell(t *testing.T) {
	for _, step := range []int{1, 2, 3, 10, 17} {
		for count := range 10 {
			least, most := largest, smallest
			for low := -2 * step; low <= 2*step; low++ {
				for rise := 0; rise <= 12*step; rise++ {
					if crossed, ok := impl.ContoursBetween(low, low+rise, step); ok && crossed == count {
						least, most = min(least, rise), max(most, rise)
					}
				}
			}
			c, ok := impl.ClaimOfContours(3, 2, count, step)
			if want := (impl.Claim{Low: 3, High: 2, Least: least, Most: most}); !ok || c != want {
				t.Errorf("%d by %d: %+v, %v, not %+v", count, step, c, ok, want)
			}
		}
	}
}

// callHeightFunctions calls each function of the chapter that has a list.
func callHeightFunctions(x terrain, heights []int) {
	for _, n := range []int{x.n, 0, 2, 10, smallest, largest} {
		impl.AreClaims(n, x.claims)
		impl.AreSoundClaims(n, x.claims)
		impl.DoHeightsFit(n, x.claims, heights)
		impl.LowestHeights(n, x.claims)
		impl.HighestHeights(n, x.claims)
		impl.BrokenClaims(n, x.claims, heights)
		impl.Culprits(n, x.claims)
		for _, k := range []int{smallest, -1, 0, 1, 9, 10, largest} {
			impl.TiedMarks(n, x.claims, k)
		}
	}
}

func TestHeightFunctionsLeaveTheListsAlone(t *testing.T) {
	terrains := slices.Concat(smallTerrains(), greatTerrains())
	for _, x := range invalidTerrains() {
		terrains = append(terrains, x)
	}
	wild := impl.Claim{Low: smallest, High: largest, Least: largest, Most: smallest}
	terrains = append(terrains, terrain{3, []impl.Claim{wild, wild}})
	behind := []impl.Claim{{Low: 0, High: 1, Least: 1, Most: 1}, wild}
	for _, x := range terrains {
		claims := append(slices.Clone(x.claims), behind...)
		heights := append(make([]int, max(0, min(x.n, 20))), 7, largest)
		before := slices.Clone(heights)
		callHeightFunctions(terrain{x.n, claims[:len(x.claims)]}, heights[:len(heights)-2])
		if !slices.Equal(claims[:len(x.claims)], x.claims) || !slices.Equal(claims[len(x.claims):], behind) || !slices.Equal(heights, before) {
			t.Fatalf("%v has become %v, and the heights %v", x, claims, heights)
		}
	}
}

// TestClaimsBehindTheListAreNotThere cuts off a Claim that ties, and one that contradicts.
func TestClaimsBehindTheListAreNotThere(t *testing.T) {
	claims := claimsOf([4]int{0, 1, 1, 2}, [4]int{1, 2, 1, 2}, [4]int{0, 2, 9, 9})
	checkSound(t, "three Claims", terrain{3, claims}, false)
	checkTold(t, "two Claims", terrain{3, claims[:2]}, []int{0, 1, 2}, []int{0, 2, 4})
	checkTold(t, "one Claim", terrain{3, claims[:1]}, nil, nil)
	heights := []int{0, 1, 200001}
	if fit, ok := impl.DoHeightsFit(2, claims[:1], heights[:2]); !ok || !fit {
		t.Errorf("a height behind the others counts: %v, %v", fit, ok)
	}
	if culprits, ok := impl.Culprits(3, claims[:2]); ok || len(culprits) != 0 {
		t.Errorf("a Claim behind the others counts: %v, %v", culprits, ok)
	}
}

// TestHeightResultsOwnTheirMemory spoils each result and asks again.
func TestHeightResultsOwnTheirMemory(t *testing.T) {
	claims := claimsOf([4]int{0, 1, 10, 20}, [4]int{1, 2, 5, 5}, [4]int{0, 2, 20, 30})
	before := slices.Clone(claims)
	bad := claimsOf([4]int{0, 1, 10, 20}, [4]int{0, 1, 30, 40})
	heights := []int{0, 10, 15}
	for range 2 {
		lowest, one := impl.LowestHeights(3, claims)
		highest, two := impl.HighestHeights(3, claims)
		tied, three := impl.TiedMarks(3, claims, 1)
		broken, four := impl.BrokenClaims(3, claims, heights)
		culprits, five := impl.Culprits(2, bad)
		if !one || !two || !three || !four || !five || !slices.Equal(claims, before) || !slices.Equal(heights, []int{0, 10, 15}) ||
			!slices.Equal(lowest, []int{0, 15, 20}) || !slices.Equal(highest, []int{0, 20, 25}) || !slices.Equal(tied, []int{0, 1, 2}) ||
			!slices.Equal(broken, []int{2}) || !slices.Equal(culprits, []int{0, 1}) {
			t.Fatalf("%v, %v, %v, %v, %v", lowest, highest, tied, broken, culprits)
		}
		for _, result := range [][]int{lowest, highest, tied, broken, culprits} {
			for i := range result[:cap(result)] {
				result[:cap(result)][i] = -77
			}
		}
	}
}
