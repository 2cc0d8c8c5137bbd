package tests

import (
	"slices"
	"strings"
	"testing"

	"loop.example/g01060/impl"
)

// club returns Readers of each Class, with and without Fines, and with gaps between the Ids.
func club() []impl.Reader {
	return []impl.Reader{
		{Id: 1, Name: "anna", Class: 1},
		{Id: 4, Name: "bo", Joined: 100, Class: 2, Fines: 600},
		{Id: 5, Name: "carl", Joined: 7, Class: 3, Fines: 40},
		{Id: 70, Name: "dora", Joined: 35, Class: 2},
		{Id: 998, Name: "abcdefghij", Joined: 4000, Class: 1, Fines: 10000},
	}
}

// fullClub returns MaxReaders Readers with the Ids from 1 on.
func fullClub() []impl.Reader {
	list := []impl.Reader{}
	for i := range impl.MaxReaders {
		list = append(list, impl.Reader{Id: i + 1, Name: string(rune('a' + i)), Joined: 10 * i, Class: 1 + i%3})
	}
	return list
}

// manyClubs returns valid lists of up to MaxReaders Readers; Fines and days are often the same.
func manyClubs() [][]impl.Reader {
	clubs := [][]impl.Reader{nil, {}, club(), fullClub()}
	n := 1
	for len(clubs) < 300 {
		list := []impl.Reader{}
		for id := 1 + n%3; len(list) < len(clubs)%(impl.MaxReaders+1); id += 1 + n%90 {
			n = (n*1103 + 12345) % 1000003
			fines := []int{0, 0, 0, 1, 499, 500, 501, 10000}[n/7%8]
			list = append(list, impl.Reader{Id: id, Name: "r", Joined: n / 11 % 5 * 1000, Class: 1 + n/3%3, Fines: fines})
		}
		clubs = append(clubs, list)
	}
	return clubs
}

// invalidClubs returns lists that are no Readers. The ripe Reader with the Id 1 is in each of them.
func invalidClubs() [][]impl.Reader {
	good := impl.Reader{Id: 1, Name: "anna", Class: 1}
	next := impl.Reader{Id: 2, Name: "bo", Joined: 9, Class: 2}
	same, name, joined, class, fines, id := next, next, next, next, next, next
	same.Id = 1
	name.Name = "Bo"
	joined.Joined = 4001
	class.Class = 4
	fines.Fines = 10001
	id.Id = 1000
	last := impl.Reader{Id: 11, Name: "k", Class: 1}
	return [][]impl.Reader{
		{good, same}, {good, good}, {next, good}, {good, next, next}, {good, name}, {good, joined}, {good, class},
		{good, fines}, {good, id}, {good, {}}, {{}, good}, append(fullClub(), last), slices.Repeat([]impl.Reader{good}, 1000),
		{good, {Id: largest, Name: "bo", Class: 1}},
	}
}

func TestIsReaderLimits(t *testing.T) {
	for _, c := range []struct {
		name      string
		low, high int
		set       func(r *impl.Reader, n int)
	}{
		{"Id", 1, 999, func(r *impl.Reader, n int) { r.Id = n }},
		{"Joined", 0, impl.MaxDay, func(r *impl.Reader, n int) { r.Joined = n }},
		{"Class", 1, 3, func(r *impl.Reader, n int) { r.Class = n }},
		{"Fines", 0, 10000, func(r *impl.Reader, n int) { r.Fines = n }},
	} {
		for _, n := range []int{smallest, -1, 0, 1, c.low - 1, c.low, c.low + 1, c.high - 1, c.high, c.high + 1, 1 << 32, largest} {
			r := impl.Reader{Id: 12, Name: "anna", Joined: 3, Class: 2, Fines: 5}
			c.set(&r, n)
			checkReader(t, r, n >= c.low && n <= c.high)
		}
	}
	checkReader(t, impl.Reader{}, false)
}

func TestIsReaderNames(t *testing.T) {
	for name, want := range map[string]bool{
		"a": true, "z": true, "abcdefghij": true, "zzzzzzzzzz": true, "": false, "abcdefghijk": false, "A": false, "aB": false,
		"a b": false, " a": false, "a ": false, "`": false, "{": false, "a1": false, "é": false, "a\x00": false, "\xff": false, "a\n": false, "a-b": false,
		strings.Repeat("a", impl.MaxString+1): false,
	} {
		checkReader(t, impl.Reader{Id: 12, Name: name, Class: 1}, want)
	}
	for c := range 256 {
		want := c >= 'a' && c <= 'z'
		for _, name := range []string{string([]byte{byte(c)}), string([]byte{byte(c), 'b'}), string([]byte{'b', byte(c)})} {
			checkReader(t, impl.Reader{Id: 12, Name: name, Class: 1}, want)
		}
	}
}

func checkReader(t *testing.T, r impl.Reader, want bool) {
	if impl.IsReader(r) != want || impl.AreReaders([]impl.Reader{r}) != want {
		t.Errorf("%+v is valid: %v, not %v", r, !want, want)
	}
	text, ok := impl.ReaderText(r)
	if ok != want || (text != "") != want {
		t.Errorf("ReaderText(%+v) = %q, %v", r, text, ok)
	}
	if back, ok := impl.ParseReader(text); ok != want || want && back != r {
		t.Errorf("ParseReader(%q) = %+v, %v, not %+v", text, back, ok, r)
	}
}

func TestAreReaders(t *testing.T) {
	for i, list := range manyClubs() {
		if !impl.AreReaders(list) {
			t.Errorf("list %d is rejected: %v", i, list)
		}
	}
	for i, list := range invalidClubs() {
		if impl.AreReaders(list) {
			t.Errorf("list %d is accepted: %v", i, list)
		}
	}
	for i := 1; i < impl.MaxReaders; i++ {
		list := fullClub()
		list[i].Id = list[i-1].Id
		if impl.AreReaders(list) {
			t.Errorf("the Readers %d and %d have the same Id", i-1, i)
		}
	}
}

// checkNoReaders calls each function that takes a list with numbers that are valid for a valid
// one with this Id; each of them must fail with zero values.
func checkNoReaders(t *testing.T, list []impl.Reader, id int) {
	home, one := impl.MayTake(list, id, 0)
	fined, two := impl.FineReader(list, id, 1)
	paid, back, three := impl.PayFines(list, id, 1)
	raised, four := impl.RaiseClass(list, id, 4000)
	if one || two || three || four || home != 0 || len(fined) != 0 || len(paid) != 0 || back != 0 || len(raised) != 0 {
		t.Errorf("%v, the Id %d: %d, %v; %v, %v; %v, %d, %v; %v, %v", list, id, home, one, fined, two, paid, back, three, raised, four)
	}
}

func TestInvalidReadersFailEverywhere(t *testing.T) {
	for i, list := range invalidClubs() {
		checkNoReaders(t, list, 1)
		joined, id, one := impl.JoinReader(list, "eva", 50)
		ripe, two := impl.RipeReaders(list, 4000)
		counts, three := impl.ClassCounts(list)
		most, four := impl.OweMost(list, 2)
		if one || two || three || four || len(joined) != 0 || id != 0 || len(ripe) != 0 || len(counts) != 0 || len(most) != 0 {
			t.Errorf("list %d: %v, %d, %v; %v, %v; %v, %v; %v, %v", i, joined, id, one, ripe, two, counts, three, most, four)
		}
	}
}

func TestUnknownReadersFail(t *testing.T) {
	for _, list := range [][]impl.Reader{nil, club(), fullClub()} {
		for _, id := range []int{smallest, -1, 0, 1, 2, 11, 69, 71, 997, 999, 1000, 1 << 32, 1<<32 + 1, largest} {
			if !slices.ContainsFunc(list, func(r impl.Reader) bool { return r.Id == id }) {
				checkNoReaders(t, list, id)
			}
		}
	}
}

func TestJoinReaderAppends(t *testing.T) {
	for _, list := range manyClubs() {
		want := impl.Reader{Id: 1, Name: "eva", Joined: 50, Class: 1}
		if len(list) > 0 {
			want.Id = list[len(list)-1].Id + 1
		}
		joined, id, ok := impl.JoinReader(list, "eva", 50)
		if ok != (len(list) < impl.MaxReaders && want.Id <= 999) {
			t.Fatalf("%v: %v, %d, %v", list, joined, id, ok)
		}
		if ok && (id != want.Id || !slices.Equal(joined, append(slices.Clone(list), want))) || !ok && (id != 0 || len(joined) != 0) {
			t.Errorf("%v: %v, %d, %v", list, joined, id, ok)
		}
	}
}

func TestJoinReaderLimits(t *testing.T) {
	for _, c := range []struct {
		list []impl.Reader
		name string
		day  int
		want int // the Id, or 0
	}{
		{nil, "a", 0, 1}, {nil, "abcdefghij", impl.MaxDay, 1}, {nil, "abcdefghijk", 0, 0}, {nil, "", 0, 0}, {nil, "Eva", 0, 0},
		{nil, "a", -1, 0}, {nil, "a", impl.MaxDay + 1, 0}, {nil, "a", smallest, 0}, {nil, "a", largest, 0},
		{club(), "anna", 0, 999}, {fullClub(), "a", 0, 0}, {fullClub()[:9], "a", 0, 10}, {fullClub()[1:], "a", 0, 11},
		{[]impl.Reader{{Id: 998, Name: "a", Class: 1}}, "a", 0, 999}, {[]impl.Reader{{Id: 999, Name: "a", Class: 1}}, "a", 0, 0},
		{nil, strings.Repeat("a", impl.MaxString+1), 0, 0},
	} {
		joined, id, ok := impl.JoinReader(c.list, c.name, c.day)
		if ok != (c.want > 0) || id != c.want || !ok && len(joined) != 0 {
			t.Errorf("JoinReader(%v, %q, %d) = %v, %d, %v", c.list, c.name, c.day, joined, id, ok)
		}
	}
}

func TestMayTake(t *testing.T) {
	for class, most := range map[int]int{1: 2, 2: 5, 3: 10} {
		for fines, left := range map[int]int{0: most, 1: most, 499: most, 500: 0, 501: 0, 10000: 0} {
			list := []impl.Reader{{Id: 3, Name: "a", Class: 1}, {Id: 8, Name: "b", Class: class, Fines: fines}, {Id: 9, Name: "c", Class: 3}}
			for home := range 100 {
				want := max(0, left-home)
				if n, ok := impl.MayTake(list, 8, home); !ok || n != want {
					t.Errorf("Class %d, Fines %d, %d at home: %d, %v", class, fines, home, n, ok)
				}
			}
			for _, home := range []int{smallest, -1, 100, 1 << 32, largest} {
				if n, ok := impl.MayTake(list, 8, home); ok || n != 0 {
					t.Errorf("%d at home: %d, %v", home, n, ok)
				}
			}
		}
	}
}

// onlyFines returns the list with other Fines of one Reader.
func onlyFines(list []impl.Reader, at int, fines int) []impl.Reader {
	changed := slices.Clone(list)
	changed[at].Fines = fines
	return changed
}

func TestFineReader(t *testing.T) {
	for _, list := range manyClubs() {
		for at, r := range list {
			for _, cents := range []int{1, 2, 499, 500, 9499, 9500, 9501, 9999, 10000} {
				fined, ok := impl.FineReader(list, r.Id, cents)
				want := []impl.Reader{}
				if r.Fines+cents <= 10000 {
					want = onlyFines(list, at, r.Fines+cents)
				}
				if ok != (len(want) > 0) || !slices.Equal(fined, want) {
					t.Fatalf("%d more for %+v: %v, %v", cents, r, fined, ok)
				}
			}
		}
	}
}

func TestFinesThatAreNone(t *testing.T) {
	for _, r := range club() {
		for _, cents := range []int{smallest, -1, 0, 10001, 1 << 32, 1<<32 + 1, largest, largest - r.Fines + 1} {
			if list, ok := impl.FineReader(club(), r.Id, cents); ok || len(list) != 0 {
				t.Errorf("fined by %d: %v, %v", cents, list, ok)
			}
			if list, back, ok := impl.PayFines(club(), r.Id, cents); ok || len(list) != 0 || back != 0 {
				t.Errorf("paid %d: %v, %d, %v", cents, list, back, ok)
			}
		}
	}
}

func TestPayFinesKnown(t *testing.T) {
	for _, c := range []struct{ fines, cents, left, back int }{
		{600, 599, 1, 0}, {600, 600, 0, 0}, {600, 601, 0, 1}, {600, 1, 599, 0}, {600, 10000, 0, 9400}, {1, 1, 0, 0},
		{0, 1, 0, 1}, {0, 10000, 0, 10000}, {10000, 9999, 1, 0}, {10000, 10000, 0, 0}, {9999, 10000, 0, 1},
	} {
		list := onlyFines(club(), 2, c.fines)
		paid, back, ok := impl.PayFines(list, 5, c.cents)
		if !ok || back != c.back || !slices.Equal(paid, onlyFines(list, 2, c.left)) {
			t.Errorf("%+v: %v, %d, %v", c, paid, back, ok)
		}
	}
}

// TestPaidAndGivenBackIsWhatWasPaid is the second half of promise 3.
func TestPaidAndGivenBackIsWhatWasPaid(t *testing.T) {
	for _, list := range manyClubs() {
		for at, r := range list {
			for _, cents := range []int{1, 2, 498, 499, 500, 501, 502, 9999, 10000} {
				changed, back, ok := impl.PayFines(list, r.Id, cents)
				if !ok || len(changed) != len(list) {
					t.Fatalf("%d from %+v: %v, %v", cents, r, changed, ok)
				}
				paid := r.Fines - changed[at].Fines
				if paid < 0 || back < 0 || paid+back != cents || back > 0 && changed[at].Fines > 0 {
					t.Errorf("%d from %+v: %d paid, %d back", cents, r, paid, back)
				}
				if !slices.Equal(changed, onlyFines(list, at, r.Fines-paid)) {
					t.Errorf("%d from %+v: %v has become %v", cents, r, list, changed)
				}
			}
		}
	}
}

func TestFinedThenPaidIsAsBefore(t *testing.T) {
	for _, cents := range []int{1, 499, 500, 10000} {
		fined, one := impl.FineReader(club(), 70, cents)
		paid, back, two := impl.PayFines(fined, 70, cents)
		if !one || !two || back != 0 || !slices.Equal(paid, club()) {
			t.Errorf("%d cents: %v, %d", cents, paid, back)
		}
	}
}

func TestRaiseClassOnTheFirstDay(t *testing.T) {
	for _, c := range []struct {
		r     impl.Reader
		first int // the first day on which the Class can be raised
	}{
		{impl.Reader{Id: 8, Name: "a", Joined: 0, Class: 1}, 365},
		{impl.Reader{Id: 8, Name: "a", Joined: 0, Class: 2}, 730},
		{impl.Reader{Id: 8, Name: "a", Joined: 100, Class: 1}, 465},
		{impl.Reader{Id: 8, Name: "a", Joined: 100, Class: 2}, 830},
		{impl.Reader{Id: 8, Name: "a", Joined: 3635, Class: 1}, 4000},
		{impl.Reader{Id: 8, Name: "a", Joined: 3270, Class: 2}, 4000},
		{impl.Reader{Id: 8, Name: "a", Joined: 3636, Class: 1}, 4001},
		{impl.Reader{Id: 8, Name: "a", Joined: 3271, Class: 2}, 4001},
		{impl.Reader{Id: 8, Name: "a", Joined: 4000, Class: 1}, 4001},
		{impl.Reader{Id: 8, Name: "a", Joined: 0, Class: 3}, 4001},
		{impl.Reader{Id: 8, Name: "a", Joined: 0, Class: 1, Fines: 1}, 4001},
		{impl.Reader{Id: 8, Name: "a", Joined: 0, Class: 2, Fines: 10000}, 4001},
	} {
		for _, day := range []int{0, 1, 364, 365, c.r.Joined, c.first - 1, c.first, c.first + 1, 3999, 4000, 4001, -1, smallest, 1 << 32, largest} {
			checkRaise(t, c.r, day, day >= c.first && day <= impl.MaxDay)
		}
	}
}

func checkRaise(t *testing.T, r impl.Reader, day int, want bool) {
	other := impl.Reader{Id: 7, Name: "b", Joined: 4000, Class: 1}
	raised, ok := impl.RaiseClass([]impl.Reader{other, r}, r.Id, day)
	ripe, valid := impl.RipeReaders([]impl.Reader{other, r}, day)
	if valid != (day >= 0 && day <= impl.MaxDay) || ok != want || slices.Equal(ripe, []int{r.Id}) != want || !want && len(ripe)+len(raised) != 0 {
		t.Fatalf("%+v on day %d: %v, %v; ripe: %v, %v", r, day, raised, ok, ripe, valid)
	}
	r.Class++
	if want && !slices.Equal(raised, []impl.Reader{other, r}) {
		t.Errorf("%+v on day %d: %v", r, day, raised)
	}
}

// TestRipeReadersAreThoseThatCanBeRaised is the first half of promise 3.
func TestRipeReadersAreThoseThatCanBeRaised(t *testing.T) {
	found := 0
	for _, list := range manyClubs() {
		for _, day := range []int{0, 364, 365, 729, 730, 1364, 1365, 2000, 3729, 3730, 4000} {
			want := []int{}
			for at, r := range list {
				raised, ok := impl.RaiseClass(list, r.Id, day)
				changed := []impl.Reader{}
				if ok {
					want = append(want, r.Id)
					changed = slices.Clone(list)
					changed[at].Class++
				}
				if ok != (r.Class < 3 && r.Fines == 0 && day >= r.Joined+365*r.Class) || !slices.Equal(raised, changed) {
					t.Errorf("%+v on day %d: %v, %v", r, day, raised, ok)
				}
			}
			if ripe, ok := impl.RipeReaders(list, day); !ok || !slices.Equal(ripe, want) {
				t.Errorf("ripe on day %d in %v: %v, %v, not %v", day, list, ripe, ok, want)
			}
			found += len(want)
		}
	}
	if found == 0 {
		t.Error("no Reader was ripe")
	}
}

func TestClassCounts(t *testing.T) {
	for i, c := range []struct {
		list []impl.Reader
		want []int
	}{
		{nil, []int{0, 0, 0}}, {club(), []int{2, 2, 1}}, {fullClub(), []int{4, 3, 3}}, {club()[2:3], []int{0, 0, 1}},
	} {
		if counts, ok := impl.ClassCounts(c.list); !ok || !slices.Equal(counts, c.want) {
			t.Errorf("list %d: %v, %v", i, counts, ok)
		}
	}
	for _, list := range manyClubs() {
		counts, ok := impl.ClassCounts(list)
		if !ok || len(counts) != 3 || counts[0]+counts[1]+counts[2] != len(list) {
			t.Errorf("%v: %v, %v", list, counts, ok)
		}
	}
}

func TestOweMostKnown(t *testing.T) {
	for n, want := range [][]int{{}, {998}, {998, 4}, {998, 4, 5}, {998, 4, 5, 1}, {998, 4, 5, 1, 70}, {998, 4, 5, 1, 70}} {
		if ids, ok := impl.OweMost(club(), n); !ok || !slices.Equal(ids, want) {
			t.Errorf("the first %d: %v, %v", n, ids, ok)
		}
	}
	equal := fullClub()
	for i := range equal {
		equal[i].Fines = 500 - i/4*100
	}
	if ids, ok := impl.OweMost(equal, 10); !ok || !slices.Equal(ids, []int{1, 2, 3, 4, 5, 6, 7, 8, 9, 10}) {
		t.Errorf("equal Fines: %v, %v", ids, ok)
	}
	slices.Reverse(equal)
	for i := range equal {
		equal[i].Id = 10 * (i + 1)
	}
	if ids, ok := impl.OweMost(equal, 7); !ok || !slices.Equal(ids, []int{70, 80, 90, 100, 30, 40, 50}) {
		t.Errorf("equal Fines behind smaller ones: %v, %v", ids, ok)
	}
}

func TestOweMostIsThePrefixOfAll(t *testing.T) {
	for _, list := range manyClubs() {
		all, ok := impl.OweMost(list, 10)
		if !ok || len(all) != len(list) {
			t.Fatalf("%v: %v, %v", list, all, ok)
		}
		fines := map[int]int{}
		for _, r := range list {
			fines[r.Id] = r.Fines
		}
		for i := 1; i < len(all); i++ {
			a, b := all[i-1], all[i]
			if fines[a] < fines[b] || fines[a] == fines[b] && a >= b {
				t.Errorf("%v: %d before %d", list, a, b)
			}
		}
		for n := range 11 {
			if ids, ok := impl.OweMost(list, n); !ok || !slices.Equal(ids, all[:min(n, len(all))]) {
				t.Errorf("the first %d of %v: %v, %v", n, list, ids, ok)
			}
		}
		for _, n := range []int{smallest, -1, 11, 1 << 32, largest} {
			if ids, ok := impl.OweMost(list, n); ok || len(ids) != 0 {
				t.Errorf("the first %d: %v, %v", n, ids, ok)
			}
		}
	}
}

func TestDaysThatAreNone(t *testing.T) {
	for _, list := range manyClubs() {
		for _, day := range []int{smallest, -1, 4001, 1 << 32, 1<<32 + 4000, largest} {
			if ripe, ok := impl.RipeReaders(list, day); ok || len(ripe) != 0 {
				t.Errorf("ripe on day %d: %v, %v", day, ripe, ok)
			}
		}
	}
}

func TestReaderTextKnown(t *testing.T) {
	for want, r := range map[string]impl.Reader{
		"4 bo c2 since 100 owes 600":              {Id: 4, Name: "bo", Joined: 100, Class: 2, Fines: 600},
		"4 bo c2 since 100":                       {Id: 4, Name: "bo", Joined: 100, Class: 2},
		"1 a c1 since 0":                          {Id: 1, Name: "a", Class: 1},
		"1 a c1 since 0 owes 1":                   {Id: 1, Name: "a", Class: 1, Fines: 1},
		"999 abcdefghij c3 since 4000 owes 10000": {Id: 999, Name: "abcdefghij", Joined: 4000, Class: 3, Fines: 10000},
		"12 c c1 since 7":                         {Id: 12, Name: "c", Joined: 7, Class: 1},
		"12 since c1 since 7":                     {Id: 12, Name: "since", Joined: 7, Class: 1},
		"12 owes c1 since 7 owes 499":             {Id: 12, Name: "owes", Joined: 7, Class: 1, Fines: 499},
		"12 cc c1 since 365 owes 10000":           {Id: 12, Name: "cc", Joined: 365, Class: 1, Fines: 10000},
	} {
		if text, ok := impl.ReaderText(r); !ok || text != want {
			t.Errorf("ReaderText(%+v) = %q, %v", r, text, ok)
		}
		if back, ok := impl.ParseReader(want); !ok || back != r {
			t.Errorf("ParseReader(%q) = %+v, %v", want, back, ok)
		}
	}
	for _, list := range manyClubs() {
		for _, r := range list {
			checkReader(t, r, true)
		}
	}
}

func TestParseReaderRejects(t *testing.T) {
	for _, s := range []string{
		"", " ", "4", "4 bo", "4 bo c2", "4 bo c2 since", "4 bo c2 since ", "4 bo c2 since 100 ", "4 bo c2 since 100 owes",
		"4 bo c2 since 100 owes ", "4 bo c2 since 100 owes 0", "4 bo c2 since 100 owes -1", "4 bo c2 since 100 owes 10001",
		"4 bo c2 since 100 owes 060", "4 bo c2 since 100 owes 6 ", "4 bo c2 since 100 owes 6 owes 6", "4 bo c2 since 100 owes 0 owes 6",
		"04 bo c2 since 100", "+4 bo c2 since 100", "0 bo c2 since 100", "1000 bo c2 since 100", "-4 bo c2 since 100", "x bo c2 since 100",
		"4 bo c0 since 100", "4 bo c4 since 100", "4 bo c02 since 100", "4 bo c since 100", "4 bo 2 since 100", "4 bo C2 since 100",
		"4 bo c2 since 4001", "4 bo c2 since -1", "4 bo c2 since 0100", "4 bo c2 since x", "4 bo c2 since -0", "4 bo c2 SINCE 100",
		"4  c2 since 100", "4 c2 since 100", "4 Bo c2 since 100", "4 b o c2 since 100", "4 abcdefghijk c2 since 100", "4 bö c2 since 100",
		" 4 bo c2 since 100", "4  bo c2 since 100", "4 bo  c2 since 100", "4 bo c2  since 100", "4 bo c2 since  100", "4 bo c2 since 100\n",
		"4 bo c2 since 100 owes 18446744073709551617", "18446744073709551620 bo c2 since 100", "4 bo c2 c2 since 100", "4 bo c2 since 1 since 100",
		"4 4 bo c2 since 100", "4 bo since 100 c2", "4,bo,c2,since,100", "4 bo c2 owes 6 since 100", "\x004 bo c2 since 100", "4 bo c2 since 100\xff",
		strings.Repeat("4 bo c2 since 100", 1000), strings.Repeat(" c", 10000), strings.Repeat("1", 10000), "4 " + strings.Repeat("b", 10000) + " c2 since 100",
	} {
		if r, ok := impl.ParseReader(s); ok || r != (impl.Reader{}) {
			t.Errorf("ParseReader(%q) = %+v, %v", s, r, ok)
		}
	}
}

// TestParseReaderChangedTexts changes, drops and doubles each byte: what is still accepted must
// be the text of the Reader that is returned.
func TestParseReaderChangedTexts(t *testing.T) {
	for _, s := range []string{"4 bo c2 since 100 owes 600", "1 a c1 since 0", "999 abcdefghij c3 since 4000 owes 10000"} {
		for i := range len(s) {
			checkParsedReader(t, s[:i])
			checkParsedReader(t, s[i:])
			checkParsedReader(t, s[:i]+s[i+1:])
			checkParsedReader(t, s[:i+1]+s[i:])
			for c := range 256 {
				checkParsedReader(t, s[:i]+string([]byte{byte(c)})+s[i+1:])
				checkParsedReader(t, s[:i]+string([]byte{byte(c)})+s[i:])
			}
		}
	}
}

func checkParsedReader(t *testing.T, s string) {
	r, ok := impl.ParseReader(s)
	if !ok && r != (impl.Reader{}) {
		t.Errorf("ParseReader(%q) fails with %+v", s, r)
	}
	if text, valid := impl.ReaderText(r); ok && (!valid || text != s) {
		t.Errorf("ParseReader(%q) = %+v, whose text is %q, %v", s, r, text, valid)
	}
}

// callReaderFunctions calls each function of the chapter that takes a list.
func callReaderFunctions(list []impl.Reader) {
	impl.AreReaders(list)
	impl.ClassCounts(list)
	for _, n := range []int{smallest, -1, 0, 1, 4, 5, 10, 70, 365, 500, 998, 4000, 10000, largest} {
		impl.JoinReader(list, "eva", n)
		impl.RipeReaders(list, n)
		impl.OweMost(list, n)
		for _, id := range []int{smallest, 0, 1, 4, 5, 70, 998, 999, largest} {
			impl.MayTake(list, id, n)
			impl.FineReader(list, id, n)
			impl.PayFines(list, id, n)
			impl.RaiseClass(list, id, n)
		}
	}
}

func TestReaderFunctionsLeaveTheListAlone(t *testing.T) {
	lists := append(manyClubs(), invalidClubs()...)
	lists = append(lists, []impl.Reader{{Id: smallest, Name: "\xff", Joined: largest, Class: smallest, Fines: largest}})
	lists = append(lists, []impl.Reader{{Id: largest, Joined: smallest, Class: largest, Fines: smallest}})
	for _, list := range lists {
		beyond := impl.Reader{Id: -7, Name: "-", Joined: -7, Class: -7, Fines: -7}
		array := append(slices.Clone(list), beyond, beyond)
		before := slices.Clone(array)
		callReaderFunctions(array[:len(list)])
		if !slices.Equal(array, before) {
			t.Fatalf("the list was changed from %v to %v", before, array)
		}
	}
}

func TestReaderResultsAreIndependent(t *testing.T) {
	list := club()
	for range 2 {
		joined, _, one := impl.JoinReader(list, "eva", 1)
		fined, two := impl.FineReader(list, 1, 1)
		paid, _, three := impl.PayFines(list, 4, 1)
		raised, four := impl.RaiseClass(list, 1, 4000)
		if !one || !two || !three || !four {
			t.Fatal("a list is invalid")
		}
		for _, result := range [][]impl.Reader{joined, fined, paid, raised} {
			for i := range result {
				result[i] = impl.Reader{}
			}
		}
		ripe, _ := impl.RipeReaders(list, 4000)
		counts, _ := impl.ClassCounts(list)
		most, _ := impl.OweMost(list, 2)
		if !slices.Equal(list, club()) || !slices.Equal(ripe, []int{1, 70}) || !slices.Equal(counts, []int{2, 2, 1}) || !slices.Equal(most, []int{998, 4}) {
			t.Fatalf("%v, %v, %v, %v", list, ripe, counts, most)
		}
		ripe[0], counts[0], most[0] = -1, -1, -1
	}
}

// TestReaderNamesOwnTheirMemory looks at addresses, because texts cannot be changed to show that
// they share memory.
func TestReaderNamesOwnTheirMemory(t *testing.T) {
	name, s := "abababab", "77 anna c1 since 3"
	r, one := impl.ParseReader(s)
	joined, _, two := impl.JoinReader([]impl.Reader{r}, name, 5)
	fined, three := impl.FineReader(joined, 78, 5)
	paid, _, four := impl.PayFines(joined, 78, 5)
	raised, five := impl.RaiseClass(joined, 78, 4000)
	if !one || !two || !three || !four || !five {
		t.Fatal("a list is invalid")
	}
	if areWithin(r.Name, s) || areWithin(joined[0].Name, r.Name) || areWithin(joined[1].Name, name) {
		t.Error("a Name is a part of an argument")
	}
	for _, list := range [][]impl.Reader{fined, paid, raised} {
		for i, r := range list {
			if areWithin(r.Name, joined[i].Name) {
				t.Errorf("the Name %q is that of the argument", r.Name)
			}
		}
	}
}
