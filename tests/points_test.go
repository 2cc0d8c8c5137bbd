package tests

import (
	"math/big"
	"slices"
	"strconv"
	"testing"

	"loop.example/g01060/impl"
)

const lastPlace = 99999

// point has exact coordinates, which are led by a way of their own: without common denominators.
type point struct{ x, y *big.Rat }

func pointOf(s impl.Spot) point {
	return point{big.NewRat(int64(s.X), int64(s.Den)), big.NewRat(int64(s.Y), int64(s.Den))}
}

func (p point) isAt(q point) bool { return p.x.Cmp(q.x) == 0 && p.y.Cmp(q.y) == 0 }

func (p point) turned(t impl.GridTurn) point {
	x, y := p.x, p.y
	switch t.Quarters {
	case 1:
		x, y = new(big.Rat).Neg(p.y), p.x
	case 2:
		x, y = new(big.Rat).Neg(p.x), new(big.Rat).Neg(p.y)
	case 3:
		x, y = p.y, new(big.Rat).Neg(p.x)
	}
	factor := big.NewRat(int64(t.Num), int64(t.Den))
	x, y = new(big.Rat).Mul(x, factor), new(big.Rat).Mul(y, factor)
	return point{x.Add(x, big.NewRat(int64(t.East), 1)), y.Add(y, big.NewRat(int64(t.North), 1))}
}

func (p point) through(chain []impl.GridTurn) point {
	for _, t := range chain {
		p = p.turned(t)
	}
	return p
}

// place is the point of a place.
func place(x, y int) point { return pointOf(impl.Spot{X: x, Y: y, Den: 1}) }

// checkLeast checks that the Den of a Spot is the least common one, which is the least common
// multiple of those of the two fractions.
func checkLeast(t *testing.T, s impl.Spot, what any) {
	if s.Den < 1 {
		t.Fatalf("%v: %v has no positive Den", what, s)
	}
	p := pointOf(s)
	a, b := p.x.Denom(), p.y.Denom()
	common := new(big.Int).Div(new(big.Int).Mul(a, b), new(big.Int).GCD(nil, nil, a, b))
	if common.Int64() != int64(s.Den) {
		t.Errorf("%v: the least common Den of %v is %v", what, s, common)
	}
}

func somePlaces() [][2]int {
	return [][2]int{{0, 0}, {1, 0}, {0, 1}, {3, 4}, {lastPlace, 0}, {0, lastPlace}, {lastPlace, lastPlace}, {12345, 67890}, {50000, 20}}
}

// edgeTurns returns GridTurns that meet the limits, with each number of Quarters.
func edgeTurns() []impl.GridTurn {
	turns := []impl.GridTurn{}
	for quarters := range 4 {
		for _, f := range [][2]int{{1, 1}, {20, 1}, {1, 20}, {20, 20}, {3, 7}, {4, 6}} {
			for _, s := range [][2]int{{0, 0}, {99999, 99999}, {-99999, 99999}, {99999, -99999}, {-99999, -99999}, {10, -3}} {
				turns = append(turns, impl.GridTurn{Quarters: quarters, Num: f[0], Den: f[1], East: s[0], North: s[1]})
			}
		}
	}
	return turns
}

// manyChains returns valid chains of no to MaxTurns GridTurns.
func manyChains() [][]impl.GridTurn {
	chains := [][]impl.GridTurn{nil, {}}
	for _, t := range edgeTurns() {
		chains = append(chains, []impl.GridTurn{t}, slices.Repeat([]impl.GridTurn{t}, impl.MaxTurns))
	}
	n := 1
	next := func(low, high int) int {
		n = (n*1103 + 12345) % 1000003
		return low + n%(high-low+1)
	}
	for len(chains) < 900 {
		chain := []impl.GridTurn{}
		for range len(chains) % (impl.MaxTurns + 1) {
			chain = append(chain, impl.GridTurn{Quarters: next(0, 3), Num: next(1, 20), Den: next(1, 20), East: next(-99999, 99999), North: next(-99999, 99999)})
		}
		chains = append(chains, chain)
	}
	return chains
}

// invalidChains returns lists of GridTurns that are no chains.
func invalidChains() [][]impl.GridTurn {
	good := impl.GridTurn{Num: 1, Den: 1}
	chains := [][]impl.GridTurn{
		slices.Repeat([]impl.GridTurn{good}, impl.MaxTurns+1), slices.Repeat([]impl.GridTurn{good}, 1000), {{}}, {good, {}}, {{}, good},
	}
	for _, bad := range []impl.GridTurn{
		{Quarters: 4, Num: 1, Den: 1}, {Quarters: -1, Num: 1, Den: 1}, {Num: 0, Den: 1}, {Num: 1, Den: 0}, {Num: 21, Den: 1}, {Num: 1, Den: 21},
		{Num: -1, Den: -1}, {Num: 1, Den: 1, East: 100000}, {Num: 1, Den: 1, North: -100000},
		{Quarters: largest, Num: largest, Den: smallest, East: smallest, North: largest},
	} {
		for at := range impl.MaxTurns {
			chain := slices.Repeat([]impl.GridTurn{good}, impl.MaxTurns)
			chain[at] = bad
			chains = append(chains, chain, chain[at:at+1])
		}
	}
	return chains
}

// checkNoChain calls each function that takes a chain; each of them must fail with zero values.
func checkNoChain(t *testing.T, chain []impl.GridTurn) {
	there, one := impl.TurnPlace(chain, 3, 4)
	back, two := impl.TurnBack(chain, 3, 4)
	quarters, num, den, three := impl.StretchOf(chain)
	if one || two || three || there != (impl.Spot{}) || back != (impl.Spot{}) || quarters != 0 || num != 0 || den != 0 {
		t.Errorf("%v: %v, %v; %v, %v; %d, %d, %d, %v", chain, there, one, back, two, quarters, num, den, three)
	}
	for _, other := range [][]impl.GridTurn{nil, {{Num: 1, Den: 1}}, chain} {
		same, one := impl.SameChains(chain, other)
		equal, two := impl.SameChains(other, chain)
		if same || one || equal || two {
			t.Errorf("%v and %v: %v, %v; %v, %v", chain, other, same, one, equal, two)
		}
	}
}

func TestInvalidChainsFailEverywhere(t *testing.T) {
	for _, chain := range invalidChains() {
		checkNoChain(t, chain)
	}
}

func TestIsGridTurnLimits(t *testing.T) {
	for _, c := range []struct {
		name      string
		low, high int
		set       func(g *impl.GridTurn, n int)
	}{
		{"Quarters", 0, 3, func(g *impl.GridTurn, n int) { g.Quarters = n }},
		{"Num", 1, 20, func(g *impl.GridTurn, n int) { g.Num = n }},
		{"Den", 1, 20, func(g *impl.GridTurn, n int) { g.Den = n }},
		{"East", -99999, 99999, func(g *impl.GridTurn, n int) { g.East = n }},
		{"North", -99999, 99999, func(g *impl.GridTurn, n int) { g.North = n }},
	} {
		for _, n := range []int{smallest, -1, 0, 1, c.low - 1, c.low, c.low + 1, c.high - 1, c.high, c.high + 1, 1 << 32, 1<<32 + 1, largest} {
			g := impl.GridTurn{Quarters: 1, Num: 3, Den: 7, East: 5, North: 6}
			c.set(&g, n)
			checkTurn(t, g, n >= c.low && n <= c.high)
		}
	}
	checkTurn(t, impl.GridTurn{}, false)
	for _, g := range edgeTurns() {
		if !impl.IsGridTurn(g) {
			t.Errorf("%+v is not valid", g)
		}
	}
}

// checkTurn expects a GridTurn that turns or multiplies, so that it has a FixedSpot if it is valid.
func checkTurn(t *testing.T, g impl.GridTurn, want bool) {
	if impl.IsGridTurn(g) != want {
		t.Errorf("%+v is valid: %v, not %v", g, !want, want)
	}
	if !want {
		checkNoChain(t, []impl.GridTurn{g})
	}
	if _, ok := impl.TurnPlace([]impl.GridTurn{g}, 1, 1); ok != want {
		t.Errorf("TurnPlace by %+v: %v", g, ok)
	}
	if s, ok := impl.FixedSpot(g); ok != want || !ok && s != (impl.Spot{}) {
		t.Errorf("FixedSpot of %+v: %v, %v", g, s, ok)
	}
}

func TestPlacesThatAreNone(t *testing.T) {
	chain := []impl.GridTurn{{Num: 1, Den: 1}}
	list := seriesOf([3]int{0, 0, 500}, [3]int{19, 19, 500}, [3]int{20, 20, 500})
	for _, p := range [][2]int{
		{-1, 0}, {0, -1}, {lastPlace + 1, 0}, {0, lastPlace + 1}, {lastPlace + 1, lastPlace + 1}, {smallest, 5}, {5, smallest}, {largest, 5}, {5, largest},
		{1 << 32, 0}, {0, 1 << 32}, {largest, smallest},
	} {
		there, one := impl.TurnPlace(chain, p[0], p[1])
		back, two := impl.TurnBack(chain, p[0], p[1])
		shown, three := impl.ShownOn(list, p[0], p[1])
		best, four := impl.BestSheet(list, p[0], p[1])
		apart, five := impl.PlacesApart(p[0], p[1], 0, 0)
		again, six := impl.PlacesApart(0, 0, p[0], p[1])
		self, seven := impl.PlacesApart(p[0], p[1], p[0], p[1])
		if one || two || three || four || five || six || seven || there != (impl.Spot{}) || back != (impl.Spot{}) ||
			len(shown) != 0 || best != 0 || apart != 0 || again != 0 || self != 0 {
			t.Errorf("%v: %v, %v, %v, %d, %d, %d, %d", p, there, back, shown, best, apart, again, self)
		}
	}
}

// led tells where a chain leads the place x, y, or what it leads there.
type led struct {
	chain []impl.GridTurn
	x, y  int
	want  impl.Spot
}

func checkLed(t *testing.T, turn func([]impl.GridTurn, int, int) (impl.Spot, bool), cases []led) {
	for i, c := range cases {
		if s, ok := turn(c.chain, c.x, c.y); !ok || s != c.want {
			t.Errorf("chain %d with %d, %d: %v, %v, not %v", i, c.x, c.y, s, ok, c.want)
		}
	}
}

func TestTurnPlaceKnown(t *testing.T) {
	checkLed(t, impl.TurnPlace, []led{
		{nil, 3, 4, impl.Spot{X: 3, Y: 4, Den: 1}},
		{nil, lastPlace, 0, impl.Spot{X: lastPlace, Den: 1}},
		{[]impl.GridTurn{{Num: 1, Den: 1}}, 3, 4, impl.Spot{X: 3, Y: 4, Den: 1}},
		{[]impl.GridTurn{{Quarters: 1, Num: 1, Den: 1}}, 3, 4, impl.Spot{X: -4, Y: 3, Den: 1}},
		{[]impl.GridTurn{{Quarters: 2, Num: 1, Den: 1}}, 3, 4, impl.Spot{X: -3, Y: -4, Den: 1}},
		{[]impl.GridTurn{{Quarters: 3, Num: 1, Den: 1}}, 3, 4, impl.Spot{X: 4, Y: -3, Den: 1}},
		// First the turn, then the factor, then the sum; and one GridTurn after the other.
		{[]impl.GridTurn{{Quarters: 1, Num: 2, Den: 1, East: 10, North: 20}}, 3, 4, impl.Spot{X: 2, Y: 26, Den: 1}},
		{[]impl.GridTurn{{Num: 1, Den: 1, East: 10}, {Quarters: 1, Num: 1, Den: 1}}, 3, 4, impl.Spot{X: -4, Y: 13, Den: 1}},
		{[]impl.GridTurn{{Quarters: 1, Num: 1, Den: 1}, {Num: 1, Den: 1, East: 10}}, 3, 4, impl.Spot{X: 6, Y: 3, Den: 1}},
		// Not in lowest terms.
		{[]impl.GridTurn{{Num: 4, Den: 8}}, 3, 4, impl.Spot{X: 3, Y: 4, Den: 2}},
		{[]impl.GridTurn{{Num: 20, Den: 20}}, 3, 4, impl.Spot{X: 3, Y: 4, Den: 1}},
		{[]impl.GridTurn{{Num: 6, Den: 4}}, 2, 4, impl.Spot{X: 3, Y: 6, Den: 1}},
		// The fractions 1/2 and 2/3, 5/6 and 0, and -3/4 and 1/2.
		{[]impl.GridTurn{{Num: 1, Den: 6}}, 3, 4, impl.Spot{X: 3, Y: 4, Den: 6}},
		{[]impl.GridTurn{{Num: 1, Den: 6}}, 5, 0, impl.Spot{X: 5, Y: 0, Den: 6}},
		{[]impl.GridTurn{{Quarters: 1, Num: 1, Den: 4}}, 2, 3, impl.Spot{X: -3, Y: 2, Den: 4}},
		// Behind a Spot with a Den, also one that vanishes again.
		{[]impl.GridTurn{{Num: 1, Den: 2, East: 1}, {Num: 1, Den: 3, North: -1}}, 3, 4, impl.Spot{X: 5, Y: -2, Den: 6}},
		{[]impl.GridTurn{{Num: 1, Den: 2, East: 1}, {Num: 2, Den: 1}}, 3, 4, impl.Spot{X: 5, Y: 4, Den: 1}},
		{[]impl.GridTurn{{Num: 1, Den: 20}, {Num: 1, Den: 20}, {Num: 1, Den: 20}, {Num: 1, Den: 20}}, 1, 3, impl.Spot{X: 1, Y: 3, Den: 160000}},
		{[]impl.GridTurn{{Num: 1, Den: 20}, {Num: 1, Den: 20}, {Num: 1, Den: 20}, {Num: 1, Den: 20}}, 0, 0, impl.Spot{Den: 1}},
		{slices.Repeat([]impl.GridTurn{{Num: 20, Den: 1}}, 4), lastPlace, 1, impl.Spot{X: 160000 * lastPlace, Y: 160000, Den: 1}},
		{[]impl.GridTurn{{Num: 1, Den: 1, East: -3, North: -4}}, 3, 4, impl.Spot{Den: 1}},
	})
}

func TestTurnBackKnown(t *testing.T) {
	checkLed(t, impl.TurnBack, []led{
		{nil, 3, 4, impl.Spot{X: 3, Y: 4, Den: 1}},
		{[]impl.GridTurn{{Quarters: 1, Num: 1, Den: 1}}, 3, 4, impl.Spot{X: 4, Y: -3, Den: 1}},
		{[]impl.GridTurn{{Quarters: 2, Num: 1, Den: 1}}, 3, 4, impl.Spot{X: -3, Y: -4, Den: 1}},
		{[]impl.GridTurn{{Quarters: 3, Num: 1, Den: 1}}, 3, 4, impl.Spot{X: -4, Y: 3, Den: 1}},
		{[]impl.GridTurn{{Quarters: 1, Num: 2, Den: 1, East: 10, North: 20}}, 2, 26, impl.Spot{X: 3, Y: 4, Den: 1}},
		{[]impl.GridTurn{{Num: 2, Den: 1}}, 3, 4, impl.Spot{X: 3, Y: 4, Den: 2}},
		{[]impl.GridTurn{{Num: 12, Den: 2}}, 3, 4, impl.Spot{X: 3, Y: 4, Den: 6}},
		{[]impl.GridTurn{{Num: 1, Den: 1, East: 10}, {Quarters: 1, Num: 1, Den: 1}}, 0, 13, impl.Spot{X: 3, Y: 0, Den: 1}},
		{[]impl.GridTurn{{Num: 2, Den: 1}, {Num: 3, Den: 1, East: 1}}, 0, 3, impl.Spot{X: -1, Y: 3, Den: 6}},
		{slices.Repeat([]impl.GridTurn{{Num: 20, Den: 1}}, 4), 1, 3, impl.Spot{X: 1, Y: 3, Den: 160000}},
		{slices.Repeat([]impl.GridTurn{{Num: 1, Den: 20}}, 4), 1, lastPlace, impl.Spot{X: 160000, Y: 160000 * lastPlace, Den: 1}},
		{[]impl.GridTurn{{Num: 7, Den: 3, East: 3, North: 4}}, 3, 4, impl.Spot{Den: 1}},
	})
}

func TestTurnPlaceIsExact(t *testing.T) {
	fractions := 0
	for _, chain := range manyChains() {
		for _, p := range somePlaces() {
			s, ok := impl.TurnPlace(chain, p[0], p[1])
			if !ok {
				t.Fatalf("%v fails for %v", chain, p)
			}
			checkLeast(t, s, chain)
			if !pointOf(s).isAt(place(p[0], p[1]).through(chain)) {
				t.Errorf("%v leads %v to %v", chain, p, s)
			}
			if x := pointOf(s); x.x.Denom().Cmp(x.y.Denom()) != 0 {
				fractions++
			}
		}
	}
	if fractions == 0 {
		t.Error("there was no Spot with different fractions")
	}
}

// TestTurnedBackAndTurnedIsThePlace is promise 4. A Spot that is a place is turned by the program
// itself; each one is turned by exact fractions.
func TestTurnedBackAndTurnedIsThePlace(t *testing.T) {
	places, others := 0, 0
	for _, chain := range manyChains() {
		for _, p := range somePlaces() {
			s, ok := impl.TurnBack(chain, p[0], p[1])
			if !ok {
				t.Fatalf("%v fails for %v", chain, p)
			}
			checkLeast(t, s, chain)
			if !pointOf(s).through(chain).isAt(place(p[0], p[1])) {
				t.Errorf("%v leads %v to %v", chain, s, p)
			}
			if s.Den > 1 || min(s.X, s.Y) < 0 || max(s.X, s.Y) > lastPlace {
				others++
				continue
			}
			places++
			if there, ok := impl.TurnPlace(chain, s.X, s.Y); !ok || there != (impl.Spot{X: p[0], Y: p[1], Den: 1}) {
				t.Errorf("%v leads %v to %v, %v", chain, s, there, ok)
			}
		}
	}
	if places == 0 || others == 0 {
		t.Errorf("%d Spots were places, %d were not", places, others)
	}
}

func TestTurnedAndTurnedBackIsThePlace(t *testing.T) {
	found := 0
	for _, chain := range manyChains() {
		for _, p := range somePlaces() {
			s, _ := impl.TurnPlace(chain, p[0], p[1])
			if s.Den > 1 || min(s.X, s.Y) < 0 || max(s.X, s.Y) > lastPlace {
				continue
			}
			found++
			if back, ok := impl.TurnBack(chain, s.X, s.Y); !ok || back != (impl.Spot{X: p[0], Y: p[1], Den: 1}) {
				t.Errorf("%v led %v to %v, and is led back to %v, %v", chain, p, s, back, ok)
			}
		}
	}
	if found == 0 {
		t.Error("no place was led to a place")
	}
}

func TestSameChainsKnown(t *testing.T) {
	quarter := impl.GridTurn{Quarters: 1, Num: 1, Den: 1}
	for i, c := range []struct {
		a, b []impl.GridTurn
		want bool
	}{
		{nil, []impl.GridTurn{}, true},
		{nil, []impl.GridTurn{{Num: 1, Den: 1}}, true},
		{nil, []impl.GridTurn{{Num: 20, Den: 20}}, true},
		{nil, []impl.GridTurn{{Num: 20, Den: 19}}, false},
		{nil, []impl.GridTurn{quarter, quarter, quarter, quarter}, true},
		{nil, []impl.GridTurn{quarter, quarter, quarter}, false},
		{nil, []impl.GridTurn{{Num: 1, Den: 1, East: 5, North: -6}, {Num: 1, Den: 1, East: -5, North: 6}}, true},
		{nil, []impl.GridTurn{{Num: 1, Den: 1, East: 5, North: -6}, {Num: 1, Den: 1, East: -5, North: 5}}, false},
		{nil, []impl.GridTurn{{Num: 2, Den: 3}, {Num: 3, Den: 2}}, true},
		{[]impl.GridTurn{{Num: 1, Den: 3}}, []impl.GridTurn{{Num: 6, Den: 18}}, true},
		{[]impl.GridTurn{{Num: 1, Den: 20}}, []impl.GridTurn{{Num: 1, Den: 19}}, false},
		{[]impl.GridTurn{quarter, quarter}, []impl.GridTurn{{Quarters: 2, Num: 7, Den: 7}}, true},
		// Sums before and behind the factor, and before and behind the turn.
		{[]impl.GridTurn{{Num: 1, Den: 2, East: 10}, {Num: 2, Den: 1}}, []impl.GridTurn{{Num: 1, Den: 1, East: 20}}, true},
		{[]impl.GridTurn{{Num: 1, Den: 1, East: 1}, {Num: 1, Den: 2}}, []impl.GridTurn{{Num: 1, Den: 2, East: 1}}, false},
		{[]impl.GridTurn{{Num: 1, Den: 1, North: -10}, quarter}, []impl.GridTurn{{Quarters: 1, Num: 1, Den: 1, East: 10}}, true},
		{[]impl.GridTurn{{Num: 1, Den: 1, North: 10}, quarter}, []impl.GridTurn{{Quarters: 1, Num: 1, Den: 1, East: 10}}, false},
		// The same for 0, 0 only: other Quarters, another factor.
		{[]impl.GridTurn{{Quarters: 1, Num: 1, Den: 2, East: 7}}, []impl.GridTurn{{Quarters: 3, Num: 1, Den: 2, East: 7}}, false},
		{[]impl.GridTurn{{Num: 1, Den: 2, East: 7}}, []impl.GridTurn{{Num: 1, Den: 3, East: 7}}, false},
		// The same for 5, 5 only, and for 1, 0 only.
		{nil, []impl.GridTurn{{Quarters: 1, Num: 1, Den: 1, East: 10}}, false},
		{nil, []impl.GridTurn{{Quarters: 2, Num: 1, Den: 1, East: 2}}, false},
		{nil, []impl.GridTurn{{Num: 2, Den: 1, East: -1}}, false},
		// Four GridTurns that differ in the last one.
		{slices.Repeat([]impl.GridTurn{{Num: 1, Den: 20, East: 1}}, 4), append(slices.Repeat([]impl.GridTurn{{Num: 1, Den: 20, East: 1}}, 3), impl.GridTurn{Num: 1, Den: 20, East: 2}), false},
	} {
		same, one := impl.SameChains(c.a, c.b)
		equal, two := impl.SameChains(c.b, c.a)
		if !one || !two || same != c.want || equal != c.want {
			t.Errorf("pair %d: %v, %v; %v, %v", i, same, one, equal, two)
		}
	}
}

// TestSameChainsAgainstPlaces compares where two chains lead several places.
func TestSameChainsAgainstPlaces(t *testing.T) {
	chains := [][]impl.GridTurn{}
	for _, first := range []impl.GridTurn{{Num: 1, Den: 1}, {Quarters: 1, Num: 1, Den: 1}, {Num: 1, Den: 2}, {Num: 2, Den: 4}, {Num: 2, Den: 1, East: 2}, {Quarters: 3, Num: 4, Den: 2, North: -2}} {
		for _, second := range []impl.GridTurn{{Num: 3, Den: 3}, {Quarters: 3, Num: 1, Den: 1}, {Num: 1, Den: 2, East: -1}, {Quarters: 2, Num: 1, Den: 2, East: 2}, {Num: 2, Den: 1}} {
			chains = append(chains, []impl.GridTurn{first, second}, []impl.GridTurn{second, first}, []impl.GridTurn{first, second, second})
		}
	}
	found := 0
	for i, a := range chains {
		for j, b := range chains {
			want := true
			for _, p := range somePlaces() {
				want = want && place(p[0], p[1]).through(a).isAt(place(p[0], p[1]).through(b))
			}
			if same, ok := impl.SameChains(a, b); !ok || same != want {
				t.Errorf("%v and %v: %v, %v", a, b, same, ok)
			}
			if want && i != j {
				found++
			}
		}
	}
	if found == 0 {
		t.Error("no different chains were the same")
	}
}

func TestStretchOfKnown(t *testing.T) {
	for i, c := range []struct {
		chain              []impl.GridTurn
		quarters, num, den int
	}{
		{nil, 0, 1, 1},
		{[]impl.GridTurn{{Num: 1, Den: 1, East: 99999, North: -99999}}, 0, 1, 1},
		{[]impl.GridTurn{{Quarters: 3, Num: 20, Den: 20}}, 3, 1, 1},
		{[]impl.GridTurn{{Quarters: 3, Num: 6, Den: 4}}, 3, 3, 2},
		{[]impl.GridTurn{{Quarters: 2, Num: 2, Den: 3}, {Quarters: 2, Num: 3, Den: 1}}, 0, 2, 1},
		{[]impl.GridTurn{{Quarters: 3, Num: 2, Den: 3}, {Quarters: 2, Num: 3, Den: 2}}, 1, 1, 1},
		{slices.Repeat([]impl.GridTurn{{Quarters: 3, Num: 20, Den: 1}}, 4), 0, 160000, 1},
		{slices.Repeat([]impl.GridTurn{{Quarters: 1, Num: 1, Den: 20}}, 4), 0, 1, 160000},
		{slices.Repeat([]impl.GridTurn{{Quarters: 1, Num: 19, Den: 20}}, 3), 3, 6859, 8000},
		{[]impl.GridTurn{{Num: 3, Den: 20}, {Num: 20, Den: 7}, {Num: 7, Den: 9}, {Num: 9, Den: 6}}, 0, 1, 2},
	} {
		if quarters, num, den, ok := impl.StretchOf(c.chain); !ok || quarters != c.quarters || num != c.num || den != c.den {
			t.Errorf("chain %d: %d, %d, %d, %v", i, quarters, num, den, ok)
		}
	}
}

// TestStretchOfIsThatOfALine turns the line from 0, 0 to 1, 0 and takes the result apart.
func TestStretchOfIsThatOfALine(t *testing.T) {
	for _, chain := range manyChains() {
		a, b := place(0, 0).through(chain), place(1, 0).through(chain)
		x, y := new(big.Rat).Sub(b.x, a.x), new(big.Rat).Sub(b.y, a.y)
		want, stretch := 0, x
		switch {
		case y.Sign() > 0:
			want, stretch = 1, y
		case x.Sign() < 0:
			want, stretch = 2, x.Neg(x)
		case y.Sign() < 0:
			want, stretch = 3, y.Neg(y)
		}
		quarters, num, den, ok := impl.StretchOf(chain)
		if !ok || quarters != want || int64(num) != stretch.Num().Int64() || int64(den) != stretch.Denom().Int64() {
			t.Errorf("%v: %d, %d, %d, %v, not %d, %v", chain, quarters, num, den, ok, want, stretch)
		}
	}
}

func TestFixedSpotKnown(t *testing.T) {
	for i, c := range []struct {
		turn impl.GridTurn
		want impl.Spot // the zero Spot: there is none, or more than one
	}{
		{impl.GridTurn{Num: 1, Den: 1}, impl.Spot{}}, // all are fixed
		{impl.GridTurn{Num: 20, Den: 20}, impl.Spot{}},
		{impl.GridTurn{Num: 1, Den: 1, East: 1}, impl.Spot{}}, // none is
		{impl.GridTurn{Num: 7, Den: 7, North: -99999}, impl.Spot{}},
		{impl.GridTurn{Num: 1, Den: 2}, impl.Spot{Den: 1}},
		{impl.GridTurn{Quarters: 2, Num: 1, Den: 1}, impl.Spot{Den: 1}},
		{impl.GridTurn{Quarters: 2, Num: 3, Den: 3, East: 5, North: 6}, impl.Spot{X: 5, Y: 6, Den: 2}},
		{impl.GridTurn{Quarters: 1, Num: 1, Den: 1, East: 10}, impl.Spot{X: 5, Y: 5, Den: 1}},
		{impl.GridTurn{Quarters: 3, Num: 1, Den: 1, East: 10}, impl.Spot{X: 5, Y: -5, Den: 1}},
		{impl.GridTurn{Quarters: 1, Num: 1, Den: 1, North: 5}, impl.Spot{X: -5, Y: 5, Den: 2}},
		{impl.GridTurn{Quarters: 3, Num: 1, Den: 1, North: 5}, impl.Spot{X: 5, Y: 5, Den: 2}},
		{impl.GridTurn{Num: 2, Den: 1, East: 10, North: -4}, impl.Spot{X: -10, Y: 4, Den: 1}},
		{impl.GridTurn{Num: 1, Den: 3, East: 1, North: 2}, impl.Spot{X: 3, Y: 6, Den: 2}},
		{impl.GridTurn{Quarters: 1, Num: 2, Den: 1, East: 1}, impl.Spot{X: 1, Y: 2, Den: 5}},
		{impl.GridTurn{Num: 19, Den: 20, East: 99999, North: -99999}, impl.Spot{X: 1999980, Y: -1999980, Den: 1}},
		{impl.GridTurn{Num: 2, Den: 20, East: 9, North: 1}, impl.Spot{X: 90, Y: 10, Den: 9}},
	} {
		if s, ok := impl.FixedSpot(c.turn); ok != (c.want.Den > 0) || s != c.want {
			t.Errorf("turn %d: %v, %v, not %v", i, s, ok, c.want)
		}
	}
}

// TestFixedSpotOfEachFactor tries all Quarters and factors: only a GridTurn that neither turns
// nor multiplies has no FixedSpot or more than one.
func TestFixedSpotOfEachFactor(t *testing.T) {
	for _, shift := range [][2]int{{0, 0}, {1, 0}, {0, -1}, {99999, -99999}, {-12, 35}} {
		for n := range 4 * 20 * 20 {
			g := impl.GridTurn{Quarters: n / 400, Num: n/20%20 + 1, Den: n%20 + 1, East: shift[0], North: shift[1]}
			s, ok := impl.FixedSpot(g)
			if ok != (g.Quarters > 0 || g.Num != g.Den) || !ok && s != (impl.Spot{}) {
				t.Fatalf("%+v: %v, %v", g, s, ok)
			}
			if !ok {
				continue
			}
			checkLeast(t, s, g)
			if !pointOf(s).turned(g).isAt(pointOf(s)) {
				t.Errorf("%+v does not lead %v to itself", g, s)
			}
		}
	}
}

// TestShownOnAtTheSides asks for places around the corners of the Sheet in the Row 2 and the Col
// 3 of the Scale 50, whose side is 500, and of its neighbors.
func TestShownOnAtTheSides(t *testing.T) {
	list := seriesOf([3]int{2, 3, 50}, [3]int{2, 2, 50}, [3]int{2, 4, 50}, [3]int{1, 3, 50}, [3]int{3, 3, 50}, [3]int{3, 2, 50})
	for x, across := range map[int]int{1499: -1, 1500: 0, 1501: 0, 1999: 0, 2000: 1} {
		for y, up := range map[int]int{999: -1, 1000: 0, 1499: 0, 1500: 1} {
			want := map[[2]int][]int{{0, 0}: {1}, {-1, 0}: {2}, {1, 0}: {3}, {0, -1}: {4}, {0, 1}: {5}, {-1, 1}: {6}}[[2]int{across, up}]
			if ids, ok := impl.ShownOn(list, x, y); !ok || !slices.Equal(ids, want) {
				t.Errorf("%d, %d is shown on %v, %v, not %v", x, y, ids, ok, want)
			}
			id, ok := impl.BestSheet(list, x, y)
			if ok != (len(want) > 0) || ok && id != want[0] || !ok && id != 0 {
				t.Errorf("%d, %d: the best one of %v is %d, %v", x, y, want, id, ok)
			}
		}
	}
}

func TestShownOnKnown(t *testing.T) {
	list := []impl.Sheet{
		{Id: 2, Row: 99, Col: 99, Scale: 10, Year: 2000}, {Id: 3, Row: 19, Col: 19, Scale: 500, Year: 1900}, {Id: 7, Row: 1, Col: 1, Scale: 500, Year: 1900},
		{Id: 8, Row: 20, Col: 20, Scale: 499, Year: 2000}, {Id: 20, Row: 20, Col: 20, Scale: 500, Year: 2000}, {Id: 999, Row: 10, Col: 10, Scale: 99, Year: 2100},
	}
	for p, want := range map[[2]int][]int{
		{0, 0}: {}, {9899, 9899}: {7}, {9900, 9900}: {2, 7, 999}, {9999, 9999}: {2, 7, 999}, {10000, 9999}: {999}, {9999, 10000}: {999},
		{5000, 5000}: {7}, {4999, 5000}: {}, {94999, 95000}: {}, {95000, 95000}: {3}, {99799, 99800}: {3}, {99800, 99800}: {3, 8}, {99999, 99999}: {3, 8},
	} {
		if ids, ok := impl.ShownOn(list, p[0], p[1]); !ok || !slices.Equal(ids, want) {
			t.Errorf("%v is shown on %v, %v, not %v", p, ids, ok, want)
		}
	}
	for _, list := range [][]impl.Sheet{nil, {}} {
		if ids, ok := impl.ShownOn(list, 0, 0); !ok || len(ids) != 0 {
			t.Errorf("no Sheets show 0, 0: %v, %v", ids, ok)
		}
		if id, ok := impl.BestSheet(list, 0, 0); ok || id != 0 {
			t.Errorf("the best one of no Sheets is %d, %v", id, ok)
		}
	}
}

func TestBestSheetKnown(t *testing.T) {
	for i, c := range []struct {
		list []impl.Sheet
		want int
	}{
		// The smallest Scale goes before the Year and the Id.
		{[]impl.Sheet{{Id: 1, Scale: 100, Year: 2100}, {Id: 2, Scale: 50, Year: 1500}}, 2},
		{[]impl.Sheet{{Id: 1, Scale: 50, Year: 1500}, {Id: 2, Scale: 100, Year: 2100}}, 1},
		{[]impl.Sheet{{Id: 1, Scale: 500, Year: 2100}, {Id: 2, Scale: 49, Year: 1900}, {Id: 3, Scale: 50, Year: 2000}}, 2},
		// Equal Years.
		{[]impl.Sheet{{Id: 1, Scale: 100, Year: 1900}, {Id: 2, Scale: 50, Year: 1900}, {Id: 3, Scale: 70, Year: 1900}}, 2},
		// Equal Scales, also with equal Years: only one of them shows the place.
		{[]impl.Sheet{{Id: 1, Row: 1, Scale: 50, Year: 2100}, {Id: 2, Scale: 50, Year: 1900}}, 2},
		{[]impl.Sheet{{Id: 1, Col: 1, Scale: 50, Year: 1900}, {Id: 2, Scale: 50, Year: 1900}}, 2},
		// A smaller Scale that does not show it.
		{[]impl.Sheet{{Id: 1, Row: 2, Col: 2, Scale: 20, Year: 1900}, {Id: 2, Scale: 90, Year: 1900}, {Id: 3, Scale: 30, Year: 1900}, {Id: 4, Scale: 29, Year: 1900}}, 3},
		{[]impl.Sheet{{Id: 1, Row: 2, Col: 2, Scale: 20, Year: 1900}, {Id: 2, Scale: 29, Year: 1900}}, 0},
		// The same place in the series twice is not valid, whatever the Years are.
		{[]impl.Sheet{{Id: 1, Scale: 50, Year: 1900}, {Id: 2, Scale: 50, Year: 2000}}, 0},
		{[]impl.Sheet{{Id: 1, Scale: 50, Year: 1900}, {Id: 2, Scale: 50, Year: 1900}}, 0},
	} {
		if id, ok := impl.BestSheet(c.list, 299, 299); ok != (c.want > 0) || id != c.want {
			t.Errorf("list %d: %d, %v, not %d", i, id, ok, c.want)
		}
	}
}

// manyLayers returns valid Sheets of several Scales that often lie over one another.
func manyLayers() [][]impl.Sheet {
	layers := [][]impl.Sheet{}
	n := 1
	for len(layers) < 300 {
		list := []impl.Sheet{}
		for id := range len(layers) % (impl.MaxSheets + 1) {
			n = (n*1103 + 12345) % 1000003
			list = append(list, impl.Sheet{Id: id + 1, Row: n % 3, Col: n / 3 % 3, Scale: 10 * (1 + n/9%5), Year: 1900 + n/45%3})
			if !impl.AreSheets(list) {
				list = list[:len(list)-1]
			}
		}
		layers = append(layers, list)
	}
	return layers
}

func TestShownOnAndBestSheetOfManyLayers(t *testing.T) {
	found := 0
	for _, list := range manyLayers() {
		for _, s := range list {
			low := [2]int{s.Col * 10 * s.Scale, s.Row * 10 * s.Scale}
			for _, p := range [][2]int{low, {low[0] + 10*s.Scale, low[1]}, {low[0], low[1] + 10*s.Scale}, {low[0] + 10*s.Scale - 1, low[1] + 10*s.Scale - 1}} {
				want, best := []int{}, impl.Sheet{Scale: 1000}
				for _, o := range list {
					if p[0]/(10*o.Scale) == o.Col && p[1]/(10*o.Scale) == o.Row {
						want = append(want, o.Id)
						if o.Scale < best.Scale {
							best = o
						}
					}
				}
				ids, one := impl.ShownOn(list, p[0], p[1])
				id, two := impl.BestSheet(list, p[0], p[1])
				if !one || !slices.Equal(ids, want) || two != (len(want) > 0) || id != best.Id {
					t.Fatalf("%v in %v: %v, %v; %d, %v; not %v, %d", p, list, ids, one, id, two, want, best.Id)
				}
				if len(want) > 1 {
					found++
				}
			}
		}
	}
	if found == 0 {
		t.Error("no place was shown twice")
	}
}

func TestInvalidSeriesShowNothing(t *testing.T) {
	for i, list := range invalidSeries() {
		ids, one := impl.ShownOn(list, 1600, 1100)
		id, two := impl.BestSheet(list, 1600, 1100)
		if one || two || len(ids) != 0 || id != 0 {
			t.Errorf("list %d: %v, %v; %d, %v", i, ids, one, id, two)
		}
	}
}

func TestPlacesApartKnown(t *testing.T) {
	for _, c := range []struct{ x, y, u, v, want int }{
		{0, 0, 0, 0, 0}, {lastPlace, lastPlace, lastPlace, lastPlace, 0}, {7, 9, 7, 9, 0},
		{0, 0, 1, 0, 1}, {0, 0, 0, 1, 1}, {0, 0, 1, 1, 1}, {0, 0, 2, 2, 2}, {0, 0, 1, 2, 2}, {0, 0, 3, 4, 5}, {3, 4, 0, 0, 5}, {3, 0, 0, 4, 5},
		{0, 0, 2, 1, 2}, {0, 0, 3, 3, 4}, {10, 20, 15, 32, 13}, {100, 100, 5, 68, 100}, {0, 0, lastPlace, 0, lastPlace}, {0, lastPlace, 0, 0, lastPlace},
		{0, 0, lastPlace, lastPlace, 141419}, {lastPlace, 0, 0, lastPlace, 141419}, {0, 0, lastPlace, 1, lastPlace}, {0, 0, 99995, 447, 99995}, {0, 0, 99995, 448, 99996},
		{0, 0, 60000, 80000, 100000}, {0, 0, 60000, 79999, 99999},
	} {
		if n, ok := impl.PlacesApart(c.x, c.y, c.u, c.v); !ok || n != c.want {
			t.Errorf("%+v: %d, %v", c, n, ok)
		}
	}
}

func TestPlacesApartIsTheWholeRoot(t *testing.T) {
	check := func(x, y, u, v int) {
		square := (x-u)*(x-u) + (y-v)*(y-v)
		n, ok := impl.PlacesApart(x, y, u, v)
		back, same := impl.PlacesApart(u, v, x, y)
		if !ok || !same || n < 0 || n*n > square || (n+1)*(n+1) <= square || back != n {
			t.Fatalf("from %d, %d to %d, %d: %d, %v; %d, %v", x, y, u, v, n, ok, back, same)
		}
	}
	for n := range 120 * 120 {
		check(50, 60, n/120, n%120)
	}
	for n := range 20000 {
		check(n*7919%100000, n*104729%100000, n*31337%100000, n*65537%100000)
		check(0, 0, lastPlace-n%100, lastPlace-n/100)
	}
}

func TestSpotTextKnown(t *testing.T) {
	for want, s := range map[string]impl.Spot{
		"-4,3":                                {X: -4, Y: 3, Den: 1},
		"23,4/2":                              {X: 23, Y: 4, Den: 2},
		"0,0":                                 {Den: 1},
		"4,6":                                 {X: 4, Y: 6, Den: 1},
		"0,1/2":                               {Y: 1, Den: 2},
		"1,0/160000":                          {X: 1, Den: 160000},
		"3,2/6":                               {X: 3, Y: 2, Den: 6}, // 1/2 and 1/3
		"-6,-10/15":                           {X: -6, Y: -10, Den: 15},
		"2000000000000,2000000000000":         {X: 2000000000000, Y: 2000000000000, Den: 1},
		"-2000000000000,-2000000000000":       {X: -2000000000000, Y: -2000000000000, Den: 1},
		"2000000000000,-2000000000000/159999": {X: 2000000000000, Y: -2000000000000, Den: 159999},
		"-1999999999999,1999999999999/160000": {X: -1999999999999, Y: 1999999999999, Den: 160000},
		"-2000000000000,1999999999999/2":      {X: -2000000000000, Y: 1999999999999, Den: 2},
		"1000000,-1000000":                    {X: 1000000, Y: -1000000, Den: 1},
		"-1,-1/2":                             {X: -1, Y: -1, Den: 2},
		"159999,-159999/160000":               {X: 159999, Y: -159999, Den: 160000},
	} {
		if text, ok := impl.SpotText(s); !ok || text != want {
			t.Errorf("SpotText(%v) = %q, %v, not %q", s, text, ok, want)
		}
	}
}

func TestSpotTextRejects(t *testing.T) {
	for _, s := range []impl.Spot{
		{}, {X: 1, Y: 1}, {X: 1, Y: 1, Den: -1}, {X: 1, Y: 1, Den: 160001}, {X: 1, Y: 1, Den: smallest}, {X: 1, Y: 1, Den: largest},
		{X: 2000000000001, Den: 1}, {X: -2000000000001, Den: 1}, {Y: 2000000000001, Den: 1}, {Y: -2000000000001, Den: 1},
		{X: smallest, Den: 1}, {X: largest, Den: 1}, {Y: smallest, Den: 1}, {Y: largest, Den: 1}, {X: smallest, Y: smallest, Den: smallest},
		{X: 2, Y: 4, Den: 2}, {X: -2, Y: 4, Den: 2}, {X: 2, Y: -4, Den: 2}, {X: -2, Y: -4, Den: 2}, {Den: 2}, {X: 0, Y: 3, Den: 3}, {X: 3, Y: 0, Den: 3},
		{X: 6, Y: 10, Den: 4}, {X: 21, Y: 35, Den: 7}, {X: 160000, Y: 160000, Den: 160000}, {Den: 160000}, {X: 1 << 32, Y: 1 << 32, Den: 1 << 32},
	} {
		if text, ok := impl.SpotText(s); ok || text != "" {
			t.Errorf("SpotText(%v) = %q, %v", s, text, ok)
		}
	}
}

func TestSpotTextOfSmallSpots(t *testing.T) {
	for n := range 41 * 41 * 30 {
		s := impl.Spot{X: n/41%41 - 20, Y: n%41 - 20, Den: n/1681 + 1}
		want := strconv.Itoa(s.X) + "," + strconv.Itoa(s.Y)
		if s.Den > 1 {
			want += "/" + strconv.Itoa(s.Den)
		}
		for d := 2; d <= s.Den; d++ {
			if s.X%d == 0 && s.Y%d == 0 && s.Den%d == 0 {
				want = ""
			}
		}
		if text, ok := impl.SpotText(s); ok != (want != "") || text != want {
			t.Fatalf("SpotText(%v) = %q, %v, not %q", s, text, ok, want)
		}
	}
}

// TestEachSpotHasAText checks that no result is outside of the limits of a text.
func TestEachSpotHasAText(t *testing.T) {
	check := func(s impl.Spot, ok bool) {
		if _, valid := impl.SpotText(s); ok && !valid {
			t.Errorf("%v has no text", s)
		}
	}
	for _, chain := range manyChains() {
		for _, p := range somePlaces() {
			check(impl.TurnPlace(chain, p[0], p[1]))
			check(impl.TurnBack(chain, p[0], p[1]))
		}
	}
	for _, g := range edgeTurns() {
		check(impl.FixedSpot(g))
	}
}

// callPointFunctions calls each function of the chapter.
func callPointFunctions(chain []impl.GridTurn, list []impl.Sheet) {
	impl.SameChains(chain, chain)
	impl.StretchOf(chain)
	for _, t := range chain {
		impl.IsGridTurn(t)
		impl.FixedSpot(t)
		impl.SpotText(impl.Spot{X: t.East, Y: t.North, Den: t.Den})
	}
	for _, x := range []int{smallest, -1, 0, 1000, 1600, lastPlace, lastPlace + 1, largest} {
		for _, y := range []int{smallest, -1, 0, 1100, lastPlace, largest} {
			impl.TurnPlace(chain, x, y)
			impl.TurnBack(chain, x, y)
			impl.ShownOn(list, x, y)
			impl.BestSheet(list, x, y)
			impl.PlacesApart(x, y, y, x)
		}
	}
}

func TestPointFunctionsLeaveTheListsAlone(t *testing.T) {
	series := append(invalidSeries(), nil, fullGrid(3, 4), seriesOf([3]int{9, 9, 50}, [3]int{8, 8, 50}, [3]int{0, 0, 500}, [3]int{0, 0, 100}, [3]int{2, 2, 55}))
	beyond, other := impl.GridTurn{Quarters: -7, Num: -7, Den: -7, East: -7, North: -7}, impl.Sheet{Id: -7, Row: -7, Col: -7, Scale: -7, Year: -7}
	for i, chain := range append(manyChains(), invalidChains()...) {
		turns, sheets := append(slices.Clone(chain), beyond, beyond), append(slices.Clone(series[i%len(series)]), other, other)
		turnsBefore, sheetsBefore := slices.Clone(turns), slices.Clone(sheets)
		callPointFunctions(turns[:len(chain)], sheets[:len(sheets)-2])
		if !slices.Equal(turns, turnsBefore) || !slices.Equal(sheets, sheetsBefore) {
			t.Fatalf("%v or %v was changed", turnsBefore, sheetsBefore)
		}
	}
}

func TestShownOnOwnsItsMemory(t *testing.T) {
	list := seriesOf([3]int{0, 0, 50}, [3]int{0, 0, 100})
	for range 2 {
		a, one := impl.ShownOn(list, 5, 5)
		b, two := impl.ShownOn(list, 5, 5)
		if !one || !two || !slices.Equal(a, []int{1, 2}) {
			t.Fatalf("%v, %v; %v, %v", a, one, b, two)
		}
		a[0], a[1] = -1, -1
		if !slices.Equal(b, []int{1, 2}) || !slices.Equal(list, seriesOf([3]int{0, 0, 50}, [3]int{0, 0, 100})) {
			t.Errorf("%v, %v", b, list)
		}
	}
}
