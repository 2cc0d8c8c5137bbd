package tests

import (
	"slices"
	"testing"

	"loop.example/g01060/impl"
)

// room has Flats and the Drawers for them.
type room struct {
	flats []impl.Flat
	list  []impl.Drawer
}

// office has Flats in no Drawer (2, 7, 40, 999) and in two of its three Drawers.
func office() room {
	return room{
		[]impl.Flat{
			{Id: 1, Wide: 500, High: 400, Grams: 60}, {Id: 2, Wide: 300, High: 200, Grams: 50}, {Id: 5, Wide: 100, High: 600, Grams: 10},
			{Id: 7, Wide: 800, High: 600, Grams: 100}, {Id: 9, Wide: 600, High: 800, Grams: 30}, {Id: 40, Wide: 600, High: 700, Grams: 170},
			{Id: 999, Wide: 2000, High: 10, Grams: 1},
		},
		[]impl.Drawer{
			{Id: 1, Wide: 500, High: 400, Holds: 100, Flats: []int{1}}, {Id: 3, Wide: 800, High: 600, Holds: 200, Flats: []int{5, 9}},
			{Id: 99, Wide: 700, High: 650, Holds: 170},
		},
	}
}

// manyFlats returns n Flats of this size with the Ids from 1 on.
func manyFlats(n, wide, high, grams int) []impl.Flat {
	flats := []impl.Flat{}
	for i := range n {
		flats = append(flats, impl.Flat{Id: i + 1, Wide: wide, High: high, Grams: grams})
	}
	return flats
}

// emptyDrawers returns n Drawers of this size with the Ids from 1 on.
func emptyDrawers(n, wide, high, holds int) []impl.Drawer {
	list := []impl.Drawer{}
	for i := range n {
		list = append(list, impl.Drawer{Id: i + 1, Wide: wide, High: high, Holds: holds})
	}
	return list
}

// idsFrom returns n numbers from first on.
func idsFrom(first, n int) []int {
	ids := []int{}
	for i := range n {
		ids = append(ids, first+i)
	}
	return ids
}

func sameDrawers(a, b []impl.Drawer) bool {
	return slices.EqualFunc(a, b, func(x, y impl.Drawer) bool {
		return x.Id == y.Id && x.Wide == y.Wide && x.High == y.High && x.Holds == y.Holds && slices.Equal(x.Flats, y.Flats)
	})
}

// withFlats returns the Drawers with other Flats in one of them.
func withFlats(list []impl.Drawer, id int, flats ...int) []impl.Drawer {
	changed := slices.Clone(list)
	for i := range changed {
		if changed[i].Id == id {
			changed[i].Flats = flats
		}
	}
	return changed
}

// liesFlat compares the shorter sides and the longer ones: turning only exchanges them.
func liesFlat(f impl.Flat, d impl.Drawer) bool {
	return min(f.Wide, f.High) <= min(d.Wide, d.High) && max(f.Wide, f.High) <= max(d.Wide, d.High)
}

// hasRoom reports whether a Flat that is in no Drawer can be added to d.
func hasRoom(flats []impl.Flat, d impl.Drawer, f impl.Flat) bool {
	grams := f.Grams
	for _, other := range flats {
		if slices.Contains(d.Flats, other.Id) {
			grams += other.Grams
		}
	}
	return len(d.Flats) < 12 && grams <= d.Holds && liesFlat(f, d)
}

// laidInto adds a Flat to a Drawer without a check.
func laidInto(list []impl.Drawer, flat, id int) []impl.Drawer {
	for _, d := range list {
		if d.Id == id {
			flats := append(slices.Clone(d.Flats), flat)
			slices.Sort(flats)
			return withFlats(list, id, flats...)
		}
	}
	return list
}

func looseIn(r room) []int {
	held := map[int]bool{}
	for _, d := range r.list {
		for _, id := range d.Flats {
			held[id] = true
		}
	}
	ids := []int{}
	for _, f := range r.flats {
		if !held[f.Id] {
			ids = append(ids, f.Id)
		}
	}
	return ids
}

func flatOf(r room, id int) impl.Flat {
	return r.flats[slices.IndexFunc(r.flats, func(f impl.Flat) bool { return f.Id == id })]
}

// manyRooms returns rooms that are right. Sizes and weights are often the same, and Drawers are
// often full.
func manyRooms() []room {
	rooms := []room{{}, {[]impl.Flat{}, []impl.Drawer{}}, office(), {flats: office().flats}, {list: emptyDrawers(8, 100, 100, 100)},
		{manyFlats(20, 2000, 2000, 5000), emptyDrawers(8, 2000, 2000, 50000)}, {manyFlats(20, 10, 10, 1), emptyDrawers(1, 100, 100, 100)}}
	n := 1
	next := func(choices ...int) int {
		n = (n*1103 + 12345) % 1000003
		return choices[n/7%len(choices)]
	}
	for len(rooms) < 400 {
		r := room{}
		small := next(0, 0, 1)
		for id := next(1, 2, 30); len(r.flats) < len(rooms)%21; id += next(1, 1, 2, 40) {
			f := impl.Flat{Id: id, Wide: next(100, 200, 300, 400, 600), High: next(100, 200, 300, 400, 600), Grams: next(10, 20, 30, 40)}
			if small == 1 {
				f.Grams = next(1, 2)
			}
			r.flats = append(r.flats, f)
		}
		for id := next(1, 2, 5); len(r.list) < len(rooms)/21%9; id += next(1, 2, 10) {
			r.list = append(r.list, impl.Drawer{Id: id, Wide: next(200, 300, 400, 600), High: next(200, 300, 400, 600), Holds: next(100, 110, 120)})
		}
		for _, f := range r.flats {
			for _, d := range r.list {
				if next(0, 0, 1) == 1 && slices.Contains(looseIn(r), f.Id) && hasRoom(r.flats, d, f) {
					r.list = laidInto(r.list, f.Id, d.Id)
				}
			}
		}
		rooms = append(rooms, r)
	}
	return rooms
}

// wrongRooms returns rooms with invalid lists or Drawers that are not right. Each has a Flat 1 in
// its Drawer 1, and a loose Flat 2 that would fit into its Drawer 2, which is empty, where a
// fault leaves them.
func wrongRooms() map[string]room {
	rooms := map[string]room{}
	add := func(name string, spoil func(r *room)) {
		r := room{manyFlats(3, 100, 100, 10), withFlats(emptyDrawers(3, 200, 200, 100), 1, 1)}
		spoil(&r)
		rooms[name] = r
	}
	add("a Flat's Id again", func(r *room) { r.flats[2].Id = 2 })
	add("Flats descend", func(r *room) { slices.Reverse(r.flats) })
	add("a Flat's Id 0", func(r *room) { r.flats = append([]impl.Flat{{Wide: 100, High: 100, Grams: 10}}, r.flats...) })
	add("a Flat's Id 1000", func(r *room) { r.flats[2].Id = 1000 })
	add("a Flat too narrow", func(r *room) { r.flats[2].Wide = 9 })
	add("a Flat too wide", func(r *room) { r.flats[2].Wide = 2001 })
	add("a Flat too low", func(r *room) { r.flats[2].High = 9 })
	add("a Flat too high", func(r *room) { r.flats[2].High = 2001 })
	add("a Flat without Grams", func(r *room) { r.flats[2].Grams = 0 })
	add("a Flat too heavy", func(r *room) { r.flats[2].Grams = 5001 })
	add("a zero Flat", func(r *room) { r.flats[2] = impl.Flat{} })
	add("21 Flats", func(r *room) { r.flats = manyFlats(21, 100, 100, 10) })
	add("1000 Flats", func(r *room) { r.flats = slices.Repeat(r.flats, 1000) })
	add("a Drawer's Id again", func(r *room) { r.list[2].Id = 2 })
	add("Drawers descend", func(r *room) { slices.Reverse(r.list) })
	add("a Drawer's Id 0", func(r *room) { r.list = append([]impl.Drawer{{Wide: 200, High: 200, Holds: 100}}, r.list...) })
	add("a Drawer's Id 100", func(r *room) { r.list[2].Id = 100 })
	add("a Drawer too narrow", func(r *room) { r.list[2].Wide = 99 })
	add("a Drawer too wide", func(r *room) { r.list[2].Wide = 2001 })
	add("a Drawer too low", func(r *room) { r.list[2].High = 99 })
	add("a Drawer too high", func(r *room) { r.list[2].High = 2001 })
	add("a Drawer too weak", func(r *room) { r.list[2].Holds = 99 })
	add("a Drawer too strong", func(r *room) { r.list[2].Holds = 50001 })
	add("a zero Drawer", func(r *room) { r.list[2] = impl.Drawer{} })
	add("9 Drawers", func(r *room) { r.list = withFlats(emptyDrawers(9, 200, 200, 100), 1, 1) })
	add("1000 Drawers", func(r *room) { r.list = slices.Repeat(r.list, 1000) })
	add("13 in a Drawer", func(r *room) {
		r.flats = manyFlats(20, 100, 100, 1)
		r.list[2].Flats = idsFrom(3, 13)
	})
	add("in two Drawers", func(r *room) { r.list[2].Flats = []int{1} })
	add("in two Drawers of three", func(r *room) { r.list[1].Flats, r.list[2].Flats = []int{3}, []int{3} })
	add("twice in a Drawer", func(r *room) { r.list[2].Flats = []int{3, 3} })
	add("descending in a Drawer", func(r *room) { r.list[0].Flats = []int{3, 1} })
	add("unknown in a Drawer", func(r *room) { r.list[2].Flats = []int{4} })
	add("unknown before others", func(r *room) { r.list[2].Flats = []int{-1, 3} })
	add("0 in a Drawer", func(r *room) { r.list[2].Flats = []int{0} })
	add("1000 in a Drawer", func(r *room) { r.list[2].Flats = []int{1000} })
	add("many in a Drawer", func(r *room) { r.list[2].Flats = idsFrom(3, 100000) })
	add("a gram too much", func(r *room) { r.flats[0].Grams = 101 })
	add("a gram too much together", func(r *room) { r.flats[0].Grams, r.flats[2].Grams, r.list[0].Flats = 50, 51, []int{1, 3} })
	add("wide by one too much", func(r *room) { r.flats[0].Wide = 201 })
	add("high by one too much", func(r *room) { r.flats[0].High = 201 })
	add("too great either way", func(r *room) { r.flats[0].Wide, r.flats[0].High, r.list[0].High = 150, 150, 140 })
	return rooms
}

func TestFlatLimits(t *testing.T) {
	for _, c := range []struct {
		name      string
		low, high int
		set       func(f *impl.Flat, n int)
	}{
		{"Id", 1, 999, func(f *impl.Flat, n int) { f.Id = n }},
		{"Wide", 10, 2000, func(f *impl.Flat, n int) { f.Wide = n }},
		{"High", 10, 2000, func(f *impl.Flat, n int) { f.High = n }},
		{"Grams", 1, 5000, func(f *impl.Flat, n int) { f.Grams = n }},
	} {
		for _, n := range []int{smallest, -1, 0, 1, c.low - 1, c.low, c.low + 1, c.high - 1, c.high, c.high + 1, 1 << 32, 1<<32 + 10, largest} {
			f := impl.Flat{Id: 12, Wide: 500, High: 400, Grams: 60}
			c.set(&f, n)
			want := n >= c.low && n <= c.high
			drawer := impl.Drawer{Id: 1, Wide: 2000, High: 2000, Holds: 100}
			fits, ok := impl.DoesFit(f, drawer)
			if impl.AreFlats([]impl.Flat{f}) != want || fits != want || ok != want || impl.AreDrawers([]impl.Flat{f}, []impl.Drawer{drawer}) != want {
				t.Errorf("a Flat with the %s %d is not %v: DoesFit = %v, %v", c.name, n, want, fits, ok)
			}
		}
	}
}

func TestDrawerLimits(t *testing.T) {
	for _, c := range []struct {
		name      string
		low, high int
		set       func(d *impl.Drawer, n int)
	}{
		{"Id", 1, 99, func(d *impl.Drawer, n int) { d.Id = n }},
		{"Wide", 100, 2000, func(d *impl.Drawer, n int) { d.Wide = n }},
		{"High", 100, 2000, func(d *impl.Drawer, n int) { d.High = n }},
		{"Holds", 100, 50000, func(d *impl.Drawer, n int) { d.Holds = n }},
	} {
		for _, n := range []int{smallest, -1, 0, 1, c.low - 1, c.low, c.low + 1, c.high - 1, c.high, c.high + 1, 1 << 32, 1<<32 + 100, largest} {
			d := impl.Drawer{Id: 12, Wide: 500, High: 400, Holds: 600}
			c.set(&d, n)
			want := n >= c.low && n <= c.high
			fits, ok := impl.DoesFit(impl.Flat{Id: 1, Wide: 10, High: 10, Grams: 1}, d)
			if fits != want || ok != want || impl.AreDrawers(nil, []impl.Drawer{d}) != want {
				t.Errorf("a Drawer with the %s %d is not %v: DoesFit = %v, %v", c.name, n, want, fits, ok)
			}
		}
	}
}

func TestAreFlats(t *testing.T) {
	for _, n := range []int{0, 1, 2, 19, 20, 21, 22, 1000} {
		if impl.AreFlats(manyFlats(n, 100, 100, 10)) != (n <= 20) {
			t.Errorf("%d Flats: %v", n, n > 20)
		}
	}
	if !impl.AreFlats(nil) || !impl.AreFlats(office().flats) || impl.AreFlats([]impl.Flat{{}}) {
		t.Error("no Flats, those of the office, or a zero one")
	}
	for i := 1; i < 20; i++ {
		equal, descending := manyFlats(20, 100, 100, 10), manyFlats(20, 100, 100, 10)
		equal[i].Id = equal[i-1].Id
		descending[i].Id, descending[i-1].Id = i, i+1
		if impl.AreFlats(equal) || impl.AreFlats(descending) {
			t.Errorf("the Ids of the Flats %d and %d are equal or descend", i-1, i)
		}
	}
}

func TestAreDrawersAccepts(t *testing.T) {
	for i, r := range manyRooms() {
		if !impl.AreDrawers(r.flats, r.list) {
			t.Errorf("room %d is rejected: %v", i, r)
		}
	}
	for n := range 12 {
		list := emptyDrawers(n, 200, 200, 100)
		if impl.AreDrawers(nil, list) != (n <= impl.MaxDrawers) {
			t.Errorf("%d Drawers: %v", n, n > impl.MaxDrawers)
		}
	}
	for n := range 21 {
		list := withFlats(emptyDrawers(1, 100, 100, 100), 1, idsFrom(1, n)...)
		if impl.AreDrawers(manyFlats(20, 10, 10, 1), list) != (n <= 12) {
			t.Errorf("%d Flats in a Drawer: %v", n, n > 12)
		}
	}
	for n := 1; n < 8; n++ {
		list := emptyDrawers(8, 200, 200, 100)
		list[n].Id = n
		if impl.AreDrawers(nil, list) {
			t.Errorf("the Drawers %d and %d have the same Id", n-1, n)
		}
	}
}

func TestAreDrawersRejects(t *testing.T) {
	for name, r := range wrongRooms() {
		if impl.AreDrawers(r.flats, r.list) {
			t.Errorf("%s is accepted: %v", name, r)
		}
	}
	r := office()
	for i := range r.flats {
		if left := slices.Delete(slices.Clone(r.flats), i, i+1); impl.AreDrawers(left, r.list) != slices.Contains(looseIn(r), r.flats[i].Id) {
			t.Errorf("without the Flat %d: %v", r.flats[i].Id, left)
		}
	}
}

// TestAreDrawersWeighs loads a Drawer up to what it Holds and one gram more.
func TestAreDrawersWeighs(t *testing.T) {
	for n := 1; n <= 12; n++ {
		for _, holds := range []int{100, 101, 5000, 49999, 50000} {
			flats := manyFlats(n, 100, 100, 1)
			left := holds - n
			for i := range flats {
				more := min(left, 4999)
				flats[i].Grams += more
				left -= more
			}
			list := withFlats(emptyDrawers(1, 100, 100, holds), 1, idsFrom(1, n)...)
			if left > 0 {
				continue // the Flats cannot fill it
			}
			grams, ok := impl.GramsIn(flats, list, 1)
			if !ok || grams != holds || !impl.AreDrawers(flats, list) {
				t.Errorf("%d Flats of %d grams together: %d, %v", n, holds, grams, ok)
			}
			if flats[n-1].Grams < 5000 {
				flats[n-1].Grams++
				grams, ok = impl.GramsIn(flats, list, 1)
				if ok || grams != 0 || impl.AreDrawers(flats, list) {
					t.Errorf("%d Flats of %d grams and one: %d, %v", n, holds, grams, ok)
				}
			}
		}
	}
}

func TestDoesFitKnown(t *testing.T) {
	for _, c := range []struct {
		flat, drawer [2]int // Wide and High
		want         bool
	}{
		{[2]int{500, 400}, [2]int{500, 400}, true}, {[2]int{400, 500}, [2]int{500, 400}, true}, {[2]int{500, 400}, [2]int{400, 500}, true},
		{[2]int{501, 400}, [2]int{500, 400}, false}, {[2]int{500, 401}, [2]int{500, 400}, false}, {[2]int{401, 500}, [2]int{500, 400}, false},
		{[2]int{400, 501}, [2]int{500, 400}, false}, {[2]int{401, 401}, [2]int{500, 400}, false}, {[2]int{400, 400}, [2]int{500, 400}, true},
		{[2]int{500, 500}, [2]int{500, 500}, true}, {[2]int{501, 500}, [2]int{500, 500}, false}, {[2]int{500, 501}, [2]int{500, 500}, false},
		{[2]int{10, 501}, [2]int{500, 400}, false}, {[2]int{501, 10}, [2]int{500, 400}, false}, {[2]int{10, 500}, [2]int{500, 400}, true},
		{[2]int{500, 10}, [2]int{400, 500}, true}, {[2]int{10, 10}, [2]int{100, 100}, true}, {[2]int{2000, 100}, [2]int{100, 2000}, true},
		{[2]int{2000, 101}, [2]int{100, 2000}, false}, {[2]int{2000, 2000}, [2]int{2000, 2000}, true}, {[2]int{2000, 2000}, [2]int{2000, 1999}, false},
	} {
		f := impl.Flat{Id: 7, Wide: c.flat[0], High: c.flat[1], Grams: 5000}
		d := impl.Drawer{Id: 7, Wide: c.drawer[0], High: c.drawer[1], Holds: 100, Flats: []int{7}}
		if fits, ok := impl.DoesFit(f, d); !ok || fits != c.want {
			t.Errorf("%v into %v: %v, %v", c.flat, c.drawer, fits, ok)
		}
	}
}

func TestDoesFitTurnedIsTheSame(t *testing.T) {
	for n := range 9 * 9 * 9 * 9 {
		f := impl.Flat{Id: 1, Wide: 98 + n%9, High: 98 + n/9%9, Grams: 1}
		d := impl.Drawer{Id: 1, Wide: 100 + n/81%9, High: 100 + n/729, Holds: 100}
		fits, one := impl.DoesFit(f, d)
		f.Wide, f.High = f.High, f.Wide
		turned, two := impl.DoesFit(f, d)
		if !one || !two || fits != turned || fits != liesFlat(f, d) {
			t.Fatalf("%v into %v: %v, %v, turned: %v, %v", f, d, fits, one, turned, two)
		}
	}
}

// TestDoesFitLooksAtBoth passes Flats and Drawers that are invalid alone.
func TestDoesFitLooksAtBoth(t *testing.T) {
	for _, c := range []struct {
		flats []int
		want  bool
	}{
		{nil, true}, {[]int{}, true}, {[]int{1}, true}, {[]int{999}, true}, {[]int{1, 999}, true}, {idsFrom(1, 12), true}, {idsFrom(988, 12), true},
		{idsFrom(1, 13), false}, {[]int{1, 1}, false}, {[]int{2, 1}, false}, {[]int{1, 5, 5}, false}, {[]int{1, 5, 4, 6}, false},
		{[]int{0}, false}, {[]int{1000}, false}, {[]int{-1, 1}, false}, {[]int{smallest}, false}, {[]int{1, largest}, false}, {idsFrom(988, 13), false},
		{idsFrom(1, 100000), false},
	} {
		d := impl.Drawer{Id: 7, Wide: 500, High: 400, Holds: 100, Flats: c.flats}
		if fits, ok := impl.DoesFit(impl.Flat{Id: 7, Wide: 10, High: 10, Grams: 1}, d); ok != c.want || fits != c.want {
			t.Errorf("into a Drawer with %d Flats: %v, %v", len(c.flats), fits, ok)
		}
		if fits, ok := impl.DoesFit(impl.Flat{Id: 7, Wide: 501, High: 10, Grams: 1}, d); ok != c.want || fits {
			t.Errorf("too wide for a Drawer with %d Flats: %v, %v", len(c.flats), fits, ok)
		}
		if fits, ok := impl.DoesFit(impl.Flat{}, d); ok || fits {
			t.Errorf("the zero Flat: %v, %v", fits, ok)
		}
	}
}

// checkNoFlat calls each function that takes a Flat's Id; each must fail with zero values.
func checkNoFlat(t *testing.T, r room, flat, id int) {
	drawer, one := impl.DrawerOf(r.flats, r.list, flat)
	put, two := impl.PutFlat(r.flats, r.list, flat, id)
	taken, three := impl.TakeFlat(r.flats, r.list, flat)
	told, four := impl.DrawersFor(r.flats, r.list, flat)
	tightest, five := impl.TightestFor(r.flats, r.list, flat)
	if one || two || three || four || five || drawer != 0 || len(put)+len(taken)+len(told) != 0 || tightest != 0 {
		t.Errorf("the Flat %d: %d, %v; %v, %v; %v, %v; %v, %v; %d, %v", flat, drawer, one, put, two, taken, three, told, four, tightest, five)
	}
}

func TestWrongRoomsFailEverywhere(t *testing.T) {
	for name, r := range wrongRooms() {
		for flat := range 5 {
			checkNoFlat(t, r, flat, 2)
			if grams, ok := impl.GramsIn(r.flats, r.list, flat); ok || grams != 0 {
				t.Errorf("%s: GramsIn = %d, %v", name, grams, ok)
			}
		}
		loose, one := impl.LooseFlats(r.flats, r.list)
		stored, left, two := impl.StoreAll(r.flats, r.list)
		empty, three := impl.EmptyDrawers(r.flats, r.list)
		if one || two || three || len(loose)+len(stored)+len(left)+len(empty) != 0 {
			t.Errorf("%s: %v, %v; %v, %v, %v; %v, %v", name, loose, one, stored, left, two, empty, three)
		}
	}
}

func TestUnknownIdsFail(t *testing.T) {
	for _, r := range []room{{}, office(), {flats: office().flats}, {list: emptyDrawers(8, 200, 200, 100)}} {
		for _, id := range []int{smallest, -1, 0, 1, 2, 3, 4, 6, 8, 10, 98, 99, 100, 998, 999, 1000, 1 << 32, 1<<32 + 1, largest} {
			if !slices.ContainsFunc(r.flats, func(f impl.Flat) bool { return f.Id == id }) {
				checkNoFlat(t, r, id, 3)
			}
			if slices.ContainsFunc(r.list, func(d impl.Drawer) bool { return d.Id == id }) {
				continue
			}
			if grams, ok := impl.GramsIn(r.flats, r.list, id); ok || grams != 0 {
				t.Errorf("GramsIn of the Drawer %d = %d, %v", id, grams, ok)
			}
			if put, ok := impl.PutFlat(r.flats, r.list, 2, id); ok || len(put) != 0 {
				t.Errorf("put into the Drawer %d: %v, %v", id, put, ok)
			}
		}
	}
}

func TestDrawersOfTheOffice(t *testing.T) {
	r := office()
	for id, want := range map[int]int{1: 60, 3: 40, 99: 0} {
		if grams, ok := impl.GramsIn(r.flats, r.list, id); !ok || grams != want {
			t.Errorf("GramsIn of the Drawer %d = %d, %v", id, grams, ok)
		}
	}
	for flat, want := range map[int]int{1: 1, 2: 0, 5: 3, 7: 0, 9: 3, 40: 0, 999: 0} {
		if id, ok := impl.DrawerOf(r.flats, r.list, flat); !ok || id != want {
			t.Errorf("DrawerOf the Flat %d = %d, %v", flat, id, ok)
		}
	}
	for flat, want := range map[int][]int{2: {3, 99}, 7: {3}, 40: {99}, 999: {}} {
		ids, ok := impl.DrawersFor(r.flats, r.list, flat)
		tightest, found := impl.TightestFor(r.flats, r.list, flat)
		if !ok || !slices.Equal(ids, want) || found != (len(want) > 0) || found && tightest != want[len(want)-1] || !found && tightest != 0 {
			t.Errorf("DrawersFor the Flat %d = %v, %v; TightestFor = %d, %v", flat, ids, ok, tightest, found)
		}
	}
	loose, one := impl.LooseFlats(r.flats, r.list)
	empty, two := impl.EmptyDrawers(r.flats, r.list)
	stored, left, three := impl.StoreAll(r.flats, r.list)
	want := withFlats(withFlats(r.list, 3, 2, 5, 7, 9), 99, 40)
	if !one || !two || !three || !slices.Equal(loose, []int{2, 7, 40, 999}) || !slices.Equal(empty, []int{99}) || !slices.Equal(left, []int{999}) || !sameDrawers(stored, want) {
		t.Errorf("%v, %v; %v, %v; %v, %v, %v", loose, one, empty, two, stored, left, three)
	}
}

func TestEmptyRooms(t *testing.T) {
	for _, r := range []room{{}, {[]impl.Flat{}, []impl.Drawer{}}, {manyFlats(2, 100, 100, 10), nil}, {nil, emptyDrawers(2, 100, 100, 100)}} {
		loose, one := impl.LooseFlats(r.flats, r.list)
		empty, two := impl.EmptyDrawers(r.flats, r.list)
		stored, left, three := impl.StoreAll(r.flats, r.list)
		all := idsFrom(1, len(r.flats))
		if !impl.AreDrawers(r.flats, r.list) || !one || !two || !three || !slices.Equal(loose, all) || !slices.Equal(left, all) ||
			!slices.Equal(empty, idsFrom(1, len(r.list))) || !sameDrawers(stored, r.list) {
			t.Errorf("%v: %v, %v; %v, %v; %v, %v, %v", r, loose, one, empty, two, stored, left, three)
		}
	}
	told, one := impl.DrawersFor(manyFlats(2, 100, 100, 10), nil, 1)
	tightest, two := impl.TightestFor(manyFlats(2, 100, 100, 10), nil, 1)
	if !one || two || len(told) != 0 || tightest != 0 {
		t.Errorf("without Drawers: %v, %v; %d, %v", told, one, tightest, two)
	}
}

func TestPutFlatKnown(t *testing.T) {
	small := manyFlats(20, 100, 100, 10)
	flat := func(wide, high, grams int) []impl.Flat {
		return []impl.Flat{{Id: 1, Wide: 100, High: 100, Grams: 40}, {Id: 2, Wide: wide, High: high, Grams: grams}}
	}
	one := withFlats(emptyDrawers(2, 300, 200, 100), 1, 1)
	wide := emptyDrawers(2, 200, 200, 50000)
	for _, c := range []struct {
		name  string
		flats []impl.Flat
		list  []impl.Drawer
		flat  int
		id    int
		want  []int // the Flats of the Drawer, or nil
	}{
		{"as great as the Drawer", flat(300, 200, 10), one, 2, 1, []int{1, 2}},
		{"only when it is turned", flat(200, 300, 10), one, 2, 1, []int{1, 2}},
		{"wide by one too much", flat(301, 200, 10), one, 2, 1, nil},
		{"high by one too much", flat(300, 201, 10), one, 2, 1, nil},
		{"turned, and wide by one too much", flat(201, 300, 10), one, 2, 1, nil},
		{"turned, and high by one too much", flat(200, 301, 10), one, 2, 1, nil},
		{"just full", flat(100, 100, 60), one, 2, 1, []int{1, 2}},
		{"a gram more", flat(100, 100, 61), one, 2, 1, nil},
		{"alone just full", flat(100, 100, 100), one, 2, 2, []int{2}},
		{"alone a gram more", flat(100, 100, 101), one, 2, 2, nil},
		{"in the same Drawer", flat(100, 100, 10), one, 1, 1, nil},
		{"in another Drawer", flat(100, 100, 10), one, 1, 2, nil},
		{"at the end of 12", small, withFlats(wide, 1, idsFrom(1, 11)...), 12, 1, idsFrom(1, 12)},
		{"at the beginning of 12", small, withFlats(wide, 1, idsFrom(2, 11)...), 1, 1, idsFrom(1, 12)},
		{"the last of 13", small, withFlats(wide, 1, idsFrom(1, 12)...), 13, 1, nil},
		{"the first of 13", small, withFlats(wide, 1, idsFrom(2, 12)...), 1, 1, nil},
		{"between others", small, withFlats(wide, 1, 2, 5, 9), 7, 1, []int{2, 5, 7, 9}},
		{"beside a full one", small, withFlats(wide, 1, idsFrom(1, 12)...), 13, 2, []int{13}},
		{"into the first empty one", small, wide, 20, 1, []int{20}},
		{"into the last empty one", small, wide, 20, 2, []int{20}},
		{"into none", small, wide, 20, 3, nil},
		{"no Flat", small, wide, 21, 1, nil},
	} {
		put, ok := impl.PutFlat(c.flats, c.list, c.flat, c.id)
		want := []impl.Drawer{}
		if c.want != nil {
			want = withFlats(c.list, c.id, c.want...)
		}
		if ok != (c.want != nil) || !sameDrawers(put, want) {
			t.Errorf("%s: %v, %v", c.name, put, ok)
		}
	}
}

func TestTakeFlatKnown(t *testing.T) {
	flats := manyFlats(20, 100, 100, 10)
	list := withFlats(withFlats(emptyDrawers(4, 200, 200, 120), 2, idsFrom(3, 12)...), 4, 20)
	for flat := range 22 {
		taken, ok := impl.TakeFlat(flats, list, flat)
		want := []impl.Drawer{}
		switch {
		case flat >= 3 && flat <= 14:
			ids := append(idsFrom(3, flat-3), idsFrom(flat+1, 14-flat)...)
			want = withFlats(list, 2, ids...)
		case flat == 20:
			want = withFlats(list, 4)
		}
		if ok != (len(want) > 0) || !sameDrawers(taken, want) {
			t.Errorf("the Flat %d: %v, %v", flat, taken, ok)
		}
		if _, again := impl.TakeFlat(flats, taken, flat); again {
			t.Errorf("the Flat %d was taken twice", flat)
		}
	}
}

// TestPutExactlyIntoTheToldDrawers is the first half of promise 5.
func TestPutExactlyIntoTheToldDrawers(t *testing.T) {
	put, refused := 0, 0
	for _, r := range manyRooms() {
		for _, f := range r.flats {
			told, ok := impl.DrawersFor(r.flats, r.list, f.Id)
			loose := slices.Contains(looseIn(r), f.Id)
			if ok != loose || !ok && len(told) != 0 {
				t.Fatalf("%v: DrawersFor the Flat %d = %v, %v", r, f.Id, told, ok)
			}
			want := []int{}
			for _, d := range r.list {
				if loose && hasRoom(r.flats, d, f) {
					want = append(want, d.Id)
				}
			}
			if !slices.Equal(told, want) {
				t.Errorf("%v: DrawersFor the Flat %d = %v, not %v", r, f.Id, told, want)
			}
			for id := range 101 {
				checkPut(t, r, f.Id, id, slices.Contains(told, id))
			}
			put += len(told)
			refused += len(r.list) - len(told)
		}
	}
	if put < 100 || refused < 100 {
		t.Errorf("%d Flats were put, %d refused", put, refused)
	}
}

// checkPut puts a Flat into a Drawer, where this should be possible, and takes it out again.
func checkPut(t *testing.T, r room, flat, id int, want bool) {
	put, ok := impl.PutFlat(r.flats, r.list, flat, id)
	if ok != want || !ok && len(put) != 0 {
		t.Fatalf("%v: the Flat %d into the Drawer %d: %v, %v", r, flat, id, put, ok)
	}
	if !ok {
		return
	}
	if !impl.AreDrawers(r.flats, put) || !sameDrawers(put, laidInto(r.list, flat, id)) {
		t.Errorf("%v: the Flat %d in the Drawer %d: %v", r, flat, id, put)
	}
	if holder, ok := impl.DrawerOf(r.flats, put, flat); !ok || holder != id {
		t.Errorf("%v: the Flat %d is in %d, not in %d", r, flat, holder, id)
	}
	if back, ok := impl.TakeFlat(r.flats, put, flat); !ok || !sameDrawers(back, r.list) {
		t.Errorf("%v: without the Flat %d again: %v, %v", r, flat, back, ok)
	}
}

func TestTakenFlatsAreLoose(t *testing.T) {
	for _, r := range manyRooms() {
		loose := looseIn(r)
		for _, f := range r.flats {
			id, one := impl.DrawerOf(r.flats, r.list, f.Id)
			taken, ok := impl.TakeFlat(r.flats, r.list, f.Id)
			if !one || ok == slices.Contains(loose, f.Id) || ok != (id != 0) || !ok && len(taken) != 0 {
				t.Fatalf("%v: the Flat %d is in %d; taken: %v, %v", r, f.Id, id, taken, ok)
			}
			if !ok {
				continue
			}
			left, two := impl.LooseFlats(r.flats, taken)
			want := append(slices.Clone(loose), f.Id)
			slices.Sort(want)
			if !two || !slices.Equal(left, want) || !sameDrawers(laidInto(taken, f.Id, id), r.list) {
				t.Errorf("%v: without the Flat %d: %v, %v", r, f.Id, taken, left)
			}
			if told, ok := impl.DrawersFor(r.flats, taken, f.Id); !ok || !slices.Contains(told, id) {
				t.Errorf("%v: the Flat %d does not go back: %v, %v", r, f.Id, told, ok)
			}
		}
	}
}

func TestGramsInManyRooms(t *testing.T) {
	for _, r := range manyRooms() {
		loose, one := impl.LooseFlats(r.flats, r.list)
		empty, two := impl.EmptyDrawers(r.flats, r.list)
		if !one || !two || !slices.Equal(loose, looseIn(r)) {
			t.Errorf("%v: %v, %v; %v, %v", r, loose, one, empty, two)
		}
		for _, d := range r.list {
			want := 0
			for _, id := range d.Flats {
				want += flatOf(r, id).Grams
			}
			if grams, ok := impl.GramsIn(r.flats, r.list, d.Id); !ok || grams != want || slices.Contains(empty, d.Id) != (want == 0) {
				t.Errorf("%v: %d, %v in the Drawer %d; empty: %v", r, grams, ok, d.Id, empty)
			}
		}
		if !slices.IsSorted(empty) || len(empty) > len(r.list) {
			t.Errorf("%v: empty: %v", r, empty)
		}
	}
}

// drawersOf returns empty Drawers of these sizes, each Wide, High and what it Holds.
func drawersOf(sizes ...[3]int) []impl.Drawer {
	list := []impl.Drawer{}
	for i, s := range sizes {
		list = append(list, impl.Drawer{Id: 10 * (i + 1), Wide: s[0], High: s[1], Holds: s[2]})
	}
	return list
}

func TestTightestForKnown(t *testing.T) {
	flats := []impl.Flat{{Id: 4, Wide: 200, High: 300, Grams: 100}, {Id: 8, Wide: 100, High: 100, Grams: 1}}
	for _, c := range []struct {
		name string
		list []impl.Drawer
		want int // or 0
	}{
		{"the smallest first", drawersOf([3]int{300, 200, 100}, [3]int{400, 200, 100}), 10},
		{"the smallest last", drawersOf([3]int{400, 200, 100}, [3]int{301, 200, 100}, [3]int{300, 200, 100}), 30},
		{"equal products", drawersOf([3]int{900, 900, 100}, [3]int{600, 200, 100}, [3]int{300, 400, 100}, [3]int{400, 300, 100}, [3]int{200, 600, 100}), 20},
		{"equal products, the first too narrow", drawersOf([3]int{1200, 100, 100}, [3]int{300, 400, 100}, [3]int{400, 300, 100}), 20},
		{"the smallest one too weak", withFlats(drawersOf([3]int{300, 200, 100}, [3]int{400, 200, 100}), 10, 8), 20},
		{"a small sum, but a greater product", drawersOf([3]int{350, 350, 100}, [3]int{600, 200, 100}), 20},
		{"the greatest", drawersOf([3]int{2000, 2000, 100}), 10},
		{"all too small", drawersOf([3]int{299, 200, 100}, [3]int{300, 199, 100}), 0},
		{"no Drawers", nil, 0},
		{"it is in one", withFlats(drawersOf([3]int{300, 200, 100}, [3]int{400, 200, 100}), 20, 4), 0},
	} {
		if id, ok := impl.TightestFor(flats, c.list, 4); ok != (c.want > 0) || id != c.want {
			t.Errorf("%s: %d, %v", c.name, id, ok)
		}
	}
}

func TestTightestForIsTheSmallestTold(t *testing.T) {
	ties := 0
	for _, r := range manyRooms() {
		for _, f := range r.flats {
			want, least, same := 0, largest, 0
			for _, d := range r.list {
				if !slices.Contains(looseIn(r), f.Id) || !hasRoom(r.flats, d, f) {
					continue
				}
				if d.Wide*d.High == least {
					same++
				} else if d.Wide*d.High < least {
					want, least, same = d.Id, d.Wide*d.High, 0
				}
			}
			ties += same
			if id, ok := impl.TightestFor(r.flats, r.list, f.Id); ok != (want > 0) || id != want {
				t.Errorf("%v: TightestFor the Flat %d = %d, %v, not %d", r, f.Id, id, ok, want)
			}
		}
	}
	if ties == 0 {
		t.Error("no two Drawers were equally tight")
	}
}

func TestStoreAllKnown(t *testing.T) {
	for _, c := range []struct {
		name  string
		flats []impl.Flat
		list  []impl.Drawer
		want  []impl.Drawer
		loose []int
	}{
		{"the greatest product first",
			[]impl.Flat{{Id: 1, Wide: 300, High: 200, Grams: 60}, {Id: 2, Wide: 300, High: 201, Grams: 60}, {Id: 3, Wide: 100, High: 100, Grams: 40}},
			drawersOf([3]int{300, 300, 100}), withFlats(drawersOf([3]int{300, 300, 100}), 10, 2, 3), []int{1}},
		{"equal products: the smallest Id first",
			[]impl.Flat{{Id: 5, Wide: 200, High: 300, Grams: 60}, {Id: 7, Wide: 300, High: 200, Grams: 60}, {Id: 9, Wide: 100, High: 600, Grams: 60}},
			drawersOf([3]int{600, 600, 119}), withFlats(drawersOf([3]int{600, 600, 119}), 10, 5), []int{7, 9}},
		{"equal Drawers: the first one first",
			manyFlats(3, 200, 100, 60), drawersOf([3]int{400, 100, 100}, [3]int{200, 200, 100}),
			withFlats(withFlats(drawersOf([3]int{400, 100, 100}, [3]int{200, 200, 100}), 10, 1), 20, 2), []int{3}},
		{"turned into the tightest",
			[]impl.Flat{{Id: 1, Wide: 100, High: 400, Grams: 1}}, drawersOf([3]int{400, 400, 100}, [3]int{400, 100, 100}),
			withFlats(drawersOf([3]int{400, 400, 100}, [3]int{400, 100, 100}), 20, 1), nil},
		{"full by their number", manyFlats(20, 10, 10, 1), drawersOf([3]int{100, 100, 100}), withFlats(drawersOf([3]int{100, 100, 100}), 10, idsFrom(1, 12)...), idsFrom(13, 8)},
		{"full by their grams", manyFlats(20, 10, 10, 10), drawersOf([3]int{100, 100, 109}), withFlats(drawersOf([3]int{100, 100, 109}), 10, idsFrom(1, 10)...), idsFrom(11, 10)},
		{"those inside stay", manyFlats(3, 200, 100, 50), withFlats(drawersOf([3]int{900, 900, 100}, [3]int{200, 100, 100}), 10, 2),
			withFlats(withFlats(drawersOf([3]int{900, 900, 100}, [3]int{200, 100, 100}), 10, 2), 20, 1, 3), nil},
		{"a small one behind one that stays loose",
			[]impl.Flat{{Id: 1, Wide: 500, High: 500, Grams: 1}, {Id: 2, Wide: 100, High: 100, Grams: 1}},
			drawersOf([3]int{200, 200, 100}), withFlats(drawersOf([3]int{200, 200, 100}), 10, 2), []int{1}},
	} {
		stored, loose, ok := impl.StoreAll(c.flats, c.list)
		if !ok || !sameDrawers(stored, c.want) || !slices.Equal(loose, c.loose) {
			t.Errorf("%s: %v, %v, %v", c.name, stored, loose, ok)
		}
	}
}

// storeByHand follows the order of StoreAll with its own search.
func storeByHand(r room) []impl.Drawer {
	waiting := looseIn(r)
	for len(waiting) > 0 {
		first := 0
		for i, id := range waiting {
			a, b := flatOf(r, id), flatOf(r, waiting[first])
			if a.Wide*a.High > b.Wide*b.High {
				first = i
			}
		}
		f := flatOf(r, waiting[first])
		waiting = slices.Delete(waiting, first, first+1)
		best, least := 0, largest
		for _, d := range r.list {
			if hasRoom(r.flats, d, f) && d.Wide*d.High < least {
				best, least = d.Id, d.Wide*d.High
			}
		}
		r.list = laidInto(r.list, f.Id, best)
	}
	return r.list
}

// TestStoredFlatsLeaveNoneThatFits is the second half of promise 5.
func TestStoredFlatsLeaveNoneThatFits(t *testing.T) {
	left, put := 0, 0
	for _, r := range manyRooms() {
		stored, loose, ok := impl.StoreAll(r.flats, r.list)
		after := room{r.flats, stored}
		if !ok || !impl.AreDrawers(r.flats, stored) || !slices.Equal(loose, looseIn(after)) {
			t.Fatalf("%v: %v, %v, %v", r, stored, loose, ok)
		}
		for _, id := range loose {
			told, ok := impl.DrawersFor(r.flats, stored, id)
			if _, found := impl.TightestFor(r.flats, stored, id); !ok || len(told) != 0 || found {
				t.Errorf("%v: the Flat %d would fit into %v of %v", r, id, told, stored)
			}
			for _, d := range stored {
				if _, ok := impl.PutFlat(r.flats, stored, id, d.Id); ok || hasRoom(r.flats, d, flatOf(r, id)) {
					t.Errorf("%v: the Flat %d would fit into the Drawer %d", r, id, d.Id)
				}
			}
		}
		if want := storeByHand(r); !sameDrawers(stored, want) {
			t.Errorf("%v: %v, not %v", r, stored, want)
		}
		again, rest, ok := impl.StoreAll(r.flats, stored)
		if !ok || !sameDrawers(again, stored) || !slices.Equal(rest, loose) {
			t.Errorf("%v: again: %v, %v, %v", r, again, rest, ok)
		}
		left += len(loose)
		put += len(looseIn(r)) - len(loose)
	}
	if left < 100 || put < 100 {
		t.Errorf("%d Flats are left, %d were put", left, put)
	}
}

// guarded returns a copy of the room whose slices go on, beyond their length, with elements that
// no function may read or write.
func guarded(r room) room {
	flats := append(slices.Clone(r.flats), impl.Flat{Id: -7}, impl.Flat{Id: -7})
	list := append(slices.Clone(r.list), impl.Drawer{Id: -7}, impl.Drawer{Id: -7})
	for i, d := range r.list {
		list[i].Flats = append(slices.Clone(d.Flats), -7, -7)[:len(d.Flats)]
	}
	return room{flats[:len(r.flats)], list[:len(r.list)]}
}

// isUntouched reports whether g is as guarded(r) has made it.
func isUntouched(g, r room) bool {
	for _, d := range g.list {
		if !slices.Equal(d.Flats[len(d.Flats):len(d.Flats)+2], []int{-7, -7}) {
			return false
		}
	}
	flats, list := g.flats[:len(r.flats)+2], g.list[:len(r.list)+2]
	return slices.Equal(flats, append(slices.Clone(r.flats), impl.Flat{Id: -7}, impl.Flat{Id: -7})) &&
		sameDrawers(list, append(slices.Clone(r.list), impl.Drawer{Id: -7}, impl.Drawer{Id: -7}))
}

// callDrawerFunctions calls each function of the chapter.
func callDrawerFunctions(r room) {
	impl.AreFlats(r.flats)
	impl.AreDrawers(r.flats, r.list)
	impl.LooseFlats(r.flats, r.list)
	impl.StoreAll(r.flats, r.list)
	impl.EmptyDrawers(r.flats, r.list)
	for _, n := range []int{smallest, -7, 0, 1, 2, 3, 5, 9, 30, 40, 99, 999, largest} {
		impl.GramsIn(r.flats, r.list, n)
		impl.DrawerOf(r.flats, r.list, n)
		impl.TakeFlat(r.flats, r.list, n)
		impl.DrawersFor(r.flats, r.list, n)
		impl.TightestFor(r.flats, r.list, n)
		for id := range 12 {
			impl.PutFlat(r.flats, r.list, n, id)
		}
	}
	for _, f := range r.flats {
		for _, d := range r.list[:min(9, len(r.list))] {
			impl.DoesFit(f, d)
		}
	}
}

func TestDrawerFunctionsLeaveTheListsAlone(t *testing.T) {
	rooms := manyRooms()
	for _, r := range wrongRooms() {
		rooms = append(rooms, r)
	}
	rooms = append(rooms, room{
		[]impl.Flat{{Id: smallest, Wide: largest, High: smallest, Grams: largest}, {Id: largest, Wide: smallest, High: largest, Grams: smallest}},
		[]impl.Drawer{{Id: smallest, Wide: largest, High: smallest, Holds: largest, Flats: []int{largest, smallest}}},
	})
	for _, r := range rooms {
		g := guarded(r)
		callDrawerFunctions(g)
		if !isUntouched(g, r) {
			t.Fatalf("%v has become %v", r, g)
		}
	}
}

// overwrite spoils all memory of a result, and reports whether no two Drawers share some.
func overwrite(list []impl.Drawer) bool {
	for i, d := range list {
		for j := range d.Flats[:cap(d.Flats)] {
			d.Flats[:cap(d.Flats)][j] = -100 - i
		}
	}
	for i, d := range list {
		for _, n := range d.Flats[:cap(d.Flats)] {
			if n != -100-i {
				return false
			}
		}
	}
	clear(list[:cap(list)])
	return true
}

// TestDrawerResultsOwnTheirMemory has the Flats of all Drawers in one array, one behind the other,
// and spoils each result.
func TestDrawerResultsOwnTheirMemory(t *testing.T) {
	flats := manyFlats(8, 100, 100, 10)
	ids := []int{1, 2, 3, 5, 6, 7}
	list := emptyDrawers(4, 200, 200, 100)
	list[0].Flats, list[1].Flats, list[2].Flats = ids[:2], ids[2:4], ids[4:]
	for range 2 {
		put, one := impl.PutFlat(flats, list, 4, 1)
		into, two := impl.PutFlat(flats, list, 4, 2)
		taken, three := impl.TakeFlat(flats, list, 1)
		stored, loose, four := impl.StoreAll(flats, list)
		if !one || !two || !three || !four || !sameDrawers(put, withFlats(list, 1, 1, 2, 4)) || !sameDrawers(into, withFlats(list, 2, 3, 4, 5)) ||
			!sameDrawers(taken, withFlats(list, 1, 2)) || !sameDrawers(stored, withFlats(list, 1, 1, 2, 4, 8)) || len(loose) != 0 {
			t.Fatalf("%v, %v; %v, %v; %v, %v; %v, %v", put, one, into, two, taken, three, stored, four)
		}
		for i, result := range [][]impl.Drawer{put, into, taken, stored} {
			if !overwrite(result) {
				t.Errorf("two Drawers of the result %d share memory", i)
			}
		}
		told, _ := impl.DrawersFor(flats, list, 4)
		free, _ := impl.LooseFlats(flats, list)
		empty, _ := impl.EmptyDrawers(flats, list)
		if !slices.Equal(ids, []int{1, 2, 3, 5, 6, 7}) || !slices.Equal(told, []int{1, 2, 3, 4}) || !slices.Equal(free, []int{4, 8}) || !slices.Equal(empty, []int{4}) {
			t.Fatalf("%v, %v, %v, %v", ids, told, free, empty)
		}
		told[0], free[0], empty[0] = -1, -1, -1
	}
}

// TestStoreAllWithNothingToStoreCopies checks that a list is not given back itself.
func TestStoreAllWithNothingToStoreCopies(t *testing.T) {
	flats := manyFlats(2, 100, 100, 10)
	list := withFlats(emptyDrawers(2, 100, 100, 100), 2, 1, 2)
	stored, loose, ok := impl.StoreAll(flats, list)
	if !ok || len(loose) != 0 || !sameDrawers(stored, list) {
		t.Fatalf("%v, %v, %v", stored, loose, ok)
	}
	if !overwrite(stored) || !sameDrawers(list, withFlats(emptyDrawers(2, 100, 100, 100), 2, 1, 2)) {
		t.Errorf("the argument is %v now", list)
	}
}
