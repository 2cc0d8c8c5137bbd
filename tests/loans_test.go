package tests

import (
	"slices"
	"strconv"
	"testing"

	"loop.example/g01060/impl"
)

// loansOf takes Sheet, Reader, Out, Due and Back of each Loan.
func loansOf(rows ...[5]int) []impl.Loan {
	list := []impl.Loan{}
	for _, r := range rows {
		list = append(list, impl.Loan{Sheet: r[0], Reader: r[1], Out: r[2], Due: r[3], Back: r[4]})
	}
	return list
}

// desk returns Loans that came back on the day Out, before Due, on it and after it, or not at all.
func desk() []impl.Loan {
	return loansOf(
		[5]int{1, 3, 0, 14, 10},
		[5]int{7, 999, 5, 5, 5},
		[5]int{7, 3, 5, 65, 8},
		[5]int{7, 4, 8, 8, 9},
		[5]int{1, 4, 20, 34, -1},
		[5]int{999, 3, 25, 39, 39},
		[5]int{2, 3, 25, 39, -1},
		[5]int{999, 1, 39, 40, 300},
	)
}

// differentLoans returns n Loans of different sheets that are not returned. The sheets descend.
func differentLoans(n int) []impl.Loan {
	list := []impl.Loan{}
	for i := range n {
		list = append(list, impl.Loan{Sheet: 500 - i, Reader: 1 + i%3, Out: 10 * i, Due: 10*i + 14, Back: -1})
	}
	return list
}

// sameLoans returns n Loans of one sheet, each one on the day on which the one before it came back.
func sameLoans(n, days int) []impl.Loan {
	list := []impl.Loan{}
	for i := range n {
		list = append(list, impl.Loan{Sheet: 8, Reader: 1 + i, Out: days * i, Due: days*i + 2, Back: days * (i + 1)})
	}
	return list
}

// manyLoans returns valid lists of all sizes. Many days are equal or next to one another.
func manyLoans() [][]impl.Loan {
	lists := [][]impl.Loan{
		nil, {}, desk(), differentLoans(1), differentLoans(15), sameLoans(15, 0), sameLoans(15, 1), sameLoans(15, 110),
		loansOf([5]int{1, 1, 4000, 4000, -1}), loansOf([5]int{999, 999, 0, 4000, -1}), loansOf([5]int{999, 999, 0, 0, 4000}),
	}
	next := numbersFrom(53)
	for len(lists) < 400 {
		list := []impl.Loan{}
		day, free := []int{0, 0, 1, 700, 3880, 3990}[next(0, 5)], map[int]int{}
		for len(list) < len(lists)%16 {
			day = min(4000, day+[]int{0, 0, 1, 1, 2, 5, 9, 100}[next(0, 7)])
			l := impl.Loan{Sheet: []int{1, 2, 3, 30, 999}[next(0, 4)], Reader: []int{1, 2, 50, 999}[next(0, 3)], Out: day, Back: -1}
			if free[l.Sheet] > day {
				l.Sheet = 600 - len(list)
			}
			l.Due = min(4000, day+[]int{0, 0, 1, 2, 3, 14, 60}[next(0, 6)])
			free[l.Sheet] = 4001
			if next(0, 3) > 0 {
				l.Back = min(4000, []int{day, day, day + 1, day + 2, day + 5, l.Due, l.Due + 1, l.Due + next(98, 102)}[next(0, 7)])
				free[l.Sheet] = l.Back
			}
			list = append(list, l)
		}
		lists = append(lists, list)
	}
	return lists
}

// invalidLoans returns lists that are no Loans. The sheets 1 and 2 are lent, and not returned, to
// the Readers 3 and 4 in each of them.
func invalidLoans() map[string][]impl.Loan {
	lists := map[string][]impl.Loan{}
	good := loansOf([5]int{1, 3, 10, 24, -1}, [5]int{2, 4, 10, 24, -1})
	add := func(name string, row [5]int) { lists[name] = append(slices.Clone(good), loansOf(row)...) }
	add("a sheet of 0", [5]int{0, 3, 12, 20, -1})
	add("a sheet of 1000", [5]int{1000, 3, 12, 20, -1})
	add("a sheet below 0", [5]int{-1, 3, 12, 20, -1})
	add("a Reader of 0", [5]int{5, 0, 12, 20, -1})
	add("a Reader of 1000", [5]int{5, 1000, 12, 20, -1})
	add("out on an earlier day", [5]int{5, 3, 9, 20, -1})
	add("out on the day -1", [5]int{5, 3, -1, 20, -1})
	add("out after the greatest day", [5]int{5, 3, 4001, 4001, -1})
	add("due after the greatest day", [5]int{5, 3, 12, 4001, -1})
	add("due on the day before Out", [5]int{5, 3, 12, 11, -1})
	add("due on the day -1", [5]int{5, 3, 12, -1, -1})
	add("back after the greatest day", [5]int{5, 3, 12, 20, 4001})
	add("back on the day before Out", [5]int{5, 3, 12, 20, 11})
	add("back on the day 0", [5]int{5, 3, 12, 20, 0})
	add("back on the day -2", [5]int{5, 3, 12, 20, -2})
	add("lent again", [5]int{1, 5, 12, 20, -1})
	add("lent again on the same day", [5]int{2, 4, 10, 24, -1})
	add("lent again to the same Reader", [5]int{1, 3, 12, 20, -1})
	add("lent again and returned", [5]int{1, 5, 12, 20, 15})
	add("lent again on the greatest day", [5]int{1, 5, 4000, 4000, 4000})
	add("the zero Loan", [5]int{})
	add("the greatest numbers", [5]int{largest, largest, largest, largest, largest})
	add("the smallest numbers", [5]int{smallest, smallest, smallest, smallest, smallest})
	lists["back after the day of the next Loan"] = append(loansOf([5]int{2, 5, 1, 2, 11}), good...)
	lists["back after the day of the next but one"] = append(loansOf([5]int{2, 5, 1, 2, 11}, [5]int{3, 5, 1, 2, -1}), good...)
	lists["due before Out at first"] = append(loansOf([5]int{3, 5, 4, 3, -1}), good...)
	lists["descending"] = append(loansOf([5]int{3, 5, 11, 14, 12}), good...)
	lists["sixteen"] = append(slices.Clone(good), shortLoans(14)...)
	lists["seventeen"] = append(slices.Clone(good), shortLoans(15)...)
	lists["very many"] = append(slices.Clone(good), shortLoans(100000)...)
	return lists
}

// shortLoans returns n Loans that may stand behind those of invalidLoans, if they are not too many.
func shortLoans(n int) []impl.Loan {
	return slices.Repeat(loansOf([5]int{6, 6, 20, 20, 20}), n)
}

// ledger is what is known in the evening of a day.
type ledger struct {
	day    int
	open   []bool      // for each Loan
	cents  []int       // for each Loan: its fine up to now
	nights map[int]int // for each sheet: how many it was not in
}

// eachEvening goes from day to day and writes down what goes out, what comes back and what falls
// due. It ends behind the day last.
func eachEvening(list []impl.Loan, last int, see func(b ledger)) {
	b := ledger{open: make([]bool, len(list)), cents: make([]int, len(list)), nights: map[int]int{}}
	for ; b.day <= last; b.day++ {
		for i, l := range list {
			if b.open[i] {
				b.nights[l.Sheet]++
				if b.day > l.Due && b.cents[i] < 1000 {
					b.cents[i] += 10
				}
			}
			if l.Out == b.day {
				b.open[i] = true
			}
			if l.Back == b.day {
				b.open[i] = false
			}
		}
		see(b)
	}
}

// areLoansByHand lends one sheet after the other.
func areLoansByHand(list []impl.Loan) bool {
	day, back := 0, map[int]int{}
	for _, l := range list {
		came, lent := back[l.Sheet]
		if l.Sheet < 1 || l.Sheet > 999 || l.Reader < 1 || l.Reader > 999 || l.Out < day || l.Out > 4000 ||
			l.Due < l.Out || l.Due > 4000 || l.Back > 4000 || l.Back < l.Out && l.Back != -1 || lent && (came == -1 || came > l.Out) {
			return false
		}
		day, back[l.Sheet] = l.Out, l.Back
	}
	return len(list) <= 15
}

// checkEvening asks for all sheets and all Readers, and for one of each that is not in the list.
func checkEvening(t *testing.T, list []impl.Loan, b ledger) {
	t.Helper()
	reader, home, late, cents := map[int]int{444: 0}, map[int][]int{444: {}}, []int{}, map[int]int{}
	for _, l := range list {
		reader[l.Sheet], home[l.Reader] = 0, []int{}
	}
	for i, l := range list {
		cents[l.Sheet] = b.cents[i]
		if !b.open[i] {
			continue
		}
		if reader[l.Sheet] != 0 {
			t.Errorf("%v, the day %d: %d is in two hands", list, b.day, l.Sheet)
		}
		reader[l.Sheet] = l.Reader
		home[l.Reader] = append(home[l.Reader], l.Sheet)
		if l.Due < b.day {
			late = append(late, l.Sheet)
		}
	}
	checkLate(t, list, b.day, late)
	for id, sheets := range home {
		checkOpen(t, list, id, b.day, sheets)
	}
	for sheet, id := range reader {
		checkWho(t, list, sheet, b.day, id)
		checkDays(t, list, sheet, b.day, b.nights[sheet])
		if fine, lent := cents[sheet]; lent {
			checkFine(t, list, sheet, b.day, fine)
		} else {
			checkNoFine(t, list, sheet, b.day)
		}
	}
}

// checkLate and checkOpen sort the sheets that they expect.
func checkLate(t *testing.T, list []impl.Loan, day int, want []int) {
	t.Helper()
	want = slices.Sorted(slices.Values(want))
	if sheets, ok := impl.LateOn(list, day); !ok || !slices.Equal(sheets, want) {
		t.Errorf("%v, the day %d: late are %v, %v, not %v", list, day, sheets, ok, want)
	}
}

func checkOpen(t *testing.T, list []impl.Loan, reader, day int, want []int) {
	t.Helper()
	want = slices.Sorted(slices.Values(want))
	if sheets, ok := impl.OpenLoans(list, reader, day); !ok || !slices.Equal(sheets, want) {
		t.Errorf("%v, the day %d: %d has %v, %v, not %v", list, day, reader, sheets, ok, want)
	}
}

func checkWho(t *testing.T, list []impl.Loan, sheet, day, want int) {
	t.Helper()
	if reader, ok := impl.WhoHas(list, sheet, day); !ok || reader != want {
		t.Errorf("%v, the day %d: %d is with %d, %v, not with %d", list, day, sheet, reader, ok, want)
	}
}

func checkDays(t *testing.T, list []impl.Loan, sheet, day, want int) {
	t.Helper()
	if days, ok := impl.DaysLent(list, sheet, day); !ok || days != want {
		t.Errorf("%v, the day %d: %d was lent %d days, %v, not %d", list, day, sheet, days, ok, want)
	}
}

func checkFine(t *testing.T, list []impl.Loan, sheet, day, want int) {
	t.Helper()
	if cents, ok := impl.FineOn(list, sheet, day); !ok || cents != want {
		t.Errorf("%v, the day %d: the fine for %d is %d, %v, not %d", list, day, sheet, cents, ok, want)
	}
}

func checkNoFine(t *testing.T, list []impl.Loan, sheet, day int) {
	t.Helper()
	if cents, ok := impl.FineOn(list, sheet, day); ok || cents != 0 {
		t.Errorf("%v, the day %d: the fine for %d is %d, %v", list, day, sheet, cents, ok)
	}
}

// checkAround asks on all days on which something changes and on those next to them, and on those
// on which a fine comes to its limit.
func checkAround(t *testing.T, list []impl.Loan) {
	t.Helper()
	around := map[int]bool{0: true, 4000: true}
	for _, l := range list {
		for _, day := range []int{l.Out, l.Due, l.Back, l.Due + 99, l.Due + 100, l.Due + 101} {
			around[day-1], around[day], around[day+1] = true, true, true
		}
	}
	eachEvening(list, 4000, func(b ledger) {
		if around[b.day] {
			checkEvening(t, list, b)
		}
	})
	checkFavorite(t, list)
}

func checkFavorite(t *testing.T, list []impl.Loan) {
	t.Helper()
	want, most := 0, 0
	for sheet := 1; sheet <= 999; sheet++ {
		times := 0
		for _, l := range list {
			if l.Sheet == sheet {
				times++
			}
		}
		if times > most {
			want, most = sheet, times
		}
	}
	if sheet, ok := impl.FavoriteSheet(list); ok != (most > 0) || sheet != want {
		t.Errorf("%v: the favorite is %d, %v, not %d", list, sheet, ok, want)
	}
}

// checkLend lends a sheet. What is wanted is that the Loan comes behind the others.
func checkLend(t *testing.T, name string, list []impl.Loan, sheet, reader, day, days int, want bool) {
	t.Helper()
	expected := []impl.Loan{}
	if want {
		expected = append(slices.Clone(list), impl.Loan{Sheet: sheet, Reader: reader, Out: day, Due: day + days, Back: -1})
	}
	lent, ok := impl.LendSheet(list, sheet, reader, day, days)
	if ok != want || !slices.Equal(lent, expected) {
		t.Errorf("%s: %v, %d lent to %d on %d for %d days: %v, %v", name, list, sheet, reader, day, days, lent, ok)
	}
	if ok && !impl.AreLoans(lent) {
		t.Errorf("%s: no Loans: %v", name, lent)
	}
}

// lastOf returns the index of the last Loan of a sheet, or -1.
func lastOf(list []impl.Loan, sheet int) int {
	at := -1
	for i, l := range list {
		if l.Sheet == sheet {
			at = i
		}
	}
	return at
}

// checkReturn gives a sheet back. What is wanted is that its last Loan comes back, with this fine.
func checkReturn(t *testing.T, name string, list []impl.Loan, sheet, day, fine int) {
	t.Helper()
	expected := slices.Clone(list)
	expected[lastOf(list, sheet)].Back = day
	returned, cents, ok := impl.ReturnSheet(list, sheet, day)
	if !ok || cents != fine || !slices.Equal(returned, expected) {
		t.Errorf("%s: %v, %d returned on %d: %v, %d, %v, not %d", name, list, sheet, day, returned, cents, ok, fine)
	}
	if !impl.AreLoans(returned) {
		t.Errorf("%s: no Loans: %v", name, returned)
	}
}

func checkNoReturn(t *testing.T, name string, list []impl.Loan, sheet, day int) {
	t.Helper()
	if returned, cents, ok := impl.ReturnSheet(list, sheet, day); ok || cents != 0 || len(returned) != 0 {
		t.Errorf("%s: %v, %d returned on %d: %v, %d, %v", name, list, sheet, day, returned, cents, ok)
	}
}

// checkProlong prolongs a Loan. What is wanted is that the last one of the sheet is due later.
func checkProlong(t *testing.T, name string, list []impl.Loan, sheet, day, days int, want bool) {
	t.Helper()
	expected := []impl.Loan{}
	if want {
		expected = slices.Clone(list)
		expected[lastOf(list, sheet)].Due += days
	}
	prolonged, ok := impl.ProlongLoan(list, sheet, day, days)
	if ok != want || !slices.Equal(prolonged, expected) {
		t.Errorf("%s: %v, %d prolonged on %d by %d days: %v, %v", name, list, sheet, day, days, prolonged, ok)
	}
	if ok && !impl.AreLoans(prolonged) {
		t.Errorf("%s: no Loans: %v", name, prolonged)
	}
}

// checkLoan checks a Loan by itself.
func checkLoan(t *testing.T, l impl.Loan, want bool) {
	t.Helper()
	if impl.AreLoans([]impl.Loan{l}) != want {
		t.Errorf("%+v is valid: %v, not %v", l, !want, want)
	}
	if text, ok := impl.LoanText(l); ok != want || (text != "") != want {
		t.Errorf("LoanText(%+v) = %q, %v", l, text, ok)
	}
}

func TestLoanLimits(t *testing.T) {
	for _, c := range []struct {
		name      string
		low, high int
		set       func(l *impl.Loan, n int)
	}{
		{"Sheet", 1, 999, func(l *impl.Loan, n int) { l.Sheet = n }},
		{"Reader", 1, 999, func(l *impl.Loan, n int) { l.Reader = n }},
		{"Out", 0, 500, func(l *impl.Loan, n int) { l.Out = n }},
		{"Out with the greatest Due", 0, 4000, func(l *impl.Loan, n int) { l.Out, l.Due = n, 4000 }},
		{"Out and Due", 0, 4000, func(l *impl.Loan, n int) { l.Out, l.Due = n, n }},
		{"Due", 400, 4000, func(l *impl.Loan, n int) { l.Due = n }},
		{"Due with the least Out", 0, 4000, func(l *impl.Loan, n int) { l.Out, l.Due = 0, n }},
		{"Out before a Back", 0, 450, func(l *impl.Loan, n int) { l.Out, l.Back = n, 450 }},
		{"Out, Due and Back", 0, 4000, func(l *impl.Loan, n int) { l.Out, l.Due, l.Back = n, n, n }},
		{"Due before a Back", 400, 4000, func(l *impl.Loan, n int) { l.Due, l.Back = n, 450 }},
	} {
		for _, n := range []int{smallest, -1 << 32, -2, -1, 0, 1, c.low - 1, c.low, c.low + 1, c.high - 1, c.high, c.high + 1, 999, 1000, 4000, 4001, 1 << 32, 1<<32 + 450, largest} {
			l := impl.Loan{Sheet: 12, Reader: 13, Out: 400, Due: 500, Back: -1}
			c.set(&l, n)
			checkLoan(t, l, n >= c.low && n <= c.high)
		}
	}
	checkLoan(t, impl.Loan{}, false)
	checkLoan(t, impl.Loan{Sheet: 1, Reader: 1}, true)
	if impl.MaxLoans != 15 {
		t.Errorf("at most %d Loans", impl.MaxLoans)
	}
}

// TestLoanDays tries days for Due and Back beside those of Out.
func TestLoanDays(t *testing.T) {
	days := []int{smallest, -4000, -3, -2, -1, 0, 1, 2, 3, 1999, 2000, 2001, 3999, 4000, 4001, 4002, 1 << 32, 1<<32 + 2000, largest}
	for _, out := range days {
		for _, due := range days {
			for _, back := range days {
				l := impl.Loan{Sheet: 1, Reader: 999, Out: out, Due: due, Back: back}
				checkLoan(t, l, out >= 0 && out <= due && due <= 4000 && (back == -1 || out <= back && back <= 4000))
			}
		}
	}
}

func TestLoanSizes(t *testing.T) {
	for n := range 20 {
		for _, list := range [][]impl.Loan{differentLoans(n), sameLoans(n, 0), sameLoans(n, 1), sameLoans(n, 110)} {
			if impl.AreLoans(list) != (n <= 15) {
				t.Errorf("%d Loans: %v", n, n > 15)
			}
		}
	}
	if !impl.AreLoans(nil) {
		t.Error("no Loans are rejected")
	}
	for i, list := range manyLoans() {
		if !impl.AreLoans(list) {
			t.Errorf("the list %d is rejected: %v", i, list)
		}
	}
	for name, list := range invalidLoans() {
		if impl.AreLoans(list) {
			t.Errorf("%s: accepted", name)
		}
		if impl.AreLoans(list) != areLoansByHand(list) {
			t.Errorf("%s: by hand %v", name, areLoansByHand(list))
		}
	}
}

func TestLoansInOrder(t *testing.T) {
	for i := 1; i < 15; i++ {
		for apart, want := range map[int]bool{-1: false, 0: true, 1: true} {
			list := differentLoans(15)
			for j := i; j < 15; j++ {
				list[j].Out = 10*(j-1) + apart + 10*min(1, j-i)
			}
			if impl.AreLoans(list) != want {
				t.Errorf("the Loan %d is out %d days behind the one before: %v", i, apart, !want)
			}
		}
	}
}

// TestSheetsAreLentAgain lets a sheet come back around the day of its next Loan, with nothing
// between both or Loans of other sheets.
func TestSheetsAreLentAgain(t *testing.T) {
	between := loansOf([5]int{5, 1, 10, 15, -1}, [5]int{6, 1, 12, 15, 20}, [5]int{7, 1, 15, 15, -1})
	for back := 8; back <= 30; back++ {
		for _, next := range []int{-1, 15, 16, 4000} {
			first := impl.Loan{Sheet: 1, Reader: 2, Out: 10, Due: 12, Back: back}
			if back < 10 {
				first.Back = -1 // it is not returned
			}
			second := impl.Loan{Sheet: 1, Reader: 3, Out: 15, Due: 20, Back: next}
			want := back >= 10 && back <= 15
			for n := range 4 {
				list := slices.Concat([]impl.Loan{first}, between[:n], []impl.Loan{second})
				if impl.AreLoans(list) != want {
					t.Errorf("%v: %v", list, !want)
				}
				list[n+1].Sheet = 2
				if !impl.AreLoans(list) {
					t.Errorf("another sheet: %v is rejected", list)
				}
				list[0].Sheet, list[n+1].Reader = 2, 2 // to the same Reader again
				if impl.AreLoans(list) != want {
					t.Errorf("%v: %v", list, !want)
				}
			}
		}
	}
}

// TestLoansOfOneDay lends a sheet several times on one day, and then longer.
func TestLoansOfOneDay(t *testing.T) {
	short, long := [5]int{1, 2, 5, 9, 5}, [5]int{1, 3, 5, 9, 6}
	open := [5]int{1, 4, 5, 9, -1}
	for want, rows := range map[bool][][][5]int{
		true:  {{short, short}, {short, short, long}, {short, open}, {short, short, short, open}},
		false: {{long, short}, {short, long, short}, {open, short}, {long, open}, {open, open}, {short, open, short}, {long, long}},
	} {
		for _, r := range rows {
			if impl.AreLoans(loansOf(r...)) != want {
				t.Errorf("%v: %v", r, !want)
			}
		}
	}
}

func TestInvalidLoansFailEverywhere(t *testing.T) {
	for name, list := range invalidLoans() {
		for sheet, reader := range map[int]int{1: 3, 2: 4} {
			open, one := impl.OpenLoans(list, reader, 30)
			late, two := impl.LateOn(list, 30)
			cents, three := impl.FineOn(list, sheet, 30)
			has, four := impl.WhoHas(list, sheet, 30)
			days, five := impl.DaysLent(list, sheet, 30)
			favorite, six := impl.FavoriteSheet(list)
			if one || two || three || four || five || six || len(open)+len(late) != 0 || cents != 0 || has != 0 || days != 0 || favorite != 0 {
				t.Errorf("%s: %v, %v; %v, %v; %d, %v; %d, %v; %d, %v; %d, %v", name, open, one, late, two, cents, three, has, four, days, five, favorite, six)
			}
			checkProlong(t, name, list, sheet, 20, 1, false)
			checkNoReturn(t, name, list, sheet, 30)
			checkLend(t, name, list, 100, reader, 4000-60, 60, false)
		}
	}
}

// TestInvalidLoansAreNotMended changes the Loan with the fault so that it would be gone.
func TestInvalidLoansAreNotMended(t *testing.T) {
	twice := loansOf([5]int{1, 3, 10, 24, -1}, [5]int{1, 4, 20, 34, -1})
	for day := 8; day <= 40; day++ {
		checkNoReturn(t, "it is lent twice", twice, 1, day)
		checkProlong(t, "it is lent twice", twice, 1, day, 5, false)
	}
	later := loansOf([5]int{1, 3, 10, 24, -1}, [5]int{1, 4, 20, 34, 30})
	for day := 8; day <= 40; day++ {
		checkNoReturn(t, "its later Loan came back", later, 1, day)
		checkProlong(t, "its later Loan came back", later, 1, day, 5, false)
	}
	early := loansOf([5]int{1, 3, 10, 9, -1})
	for day := 8; day <= 12; day++ {
		checkProlong(t, "due before Out", early, 1, day, 10, false)
		checkNoReturn(t, "due before Out", early, 1, day)
	}
	for _, back := range []int{smallest, -2, 9, 4001, largest} {
		list := loansOf([5]int{1, 3, 10, 24, back})
		checkNoReturn(t, "a wrong Back", list, 1, 15)
		checkProlong(t, "a wrong Back", list, 1, 15, 5, false)
	}
}

// oddNumbers are no days, and no Ids.
func oddNumbers() []int {
	return []int{smallest, smallest + 1, -1 << 32, -4000, -2, -1, 4001, 4002, 1 << 32, 1<<32 + 30, largest - 14, largest}
}

func TestDaysOfLoansThatAreNone(t *testing.T) {
	lists := [][]impl.Loan{desk(), loansOf([5]int{1, 3, 0, 0, -1}), loansOf([5]int{1, 3, 4000, 4000, -1}), loansOf([5]int{1, 3, 0, 4000, -1}), loansOf([5]int{1, 3, 3990, 3999, -1})}
	for _, list := range lists {
		for _, day := range oddNumbers() {
			open, one := impl.OpenLoans(list, 3, day)
			late, two := impl.LateOn(list, day)
			has, three := impl.WhoHas(list, 1, day)
			days, four := impl.DaysLent(list, 1, day)
			if one || two || three || four || len(open)+len(late) != 0 || has != 0 || days != 0 {
				t.Errorf("%v, the day %d: %v, %v; %v, %v; %d, %v; %d, %v", list, day, open, one, late, two, has, three, days, four)
			}
			checkNoFine(t, list, 1, day)
			checkNoReturn(t, "a wrong day", list, 1, day)
			checkProlong(t, "a wrong day", list, 1, day, 1, false)
			checkProlong(t, "a wrong day", list, 1, day, 60, false)
			checkLend(t, "a wrong day", list, 8, 3, day, 1, false)
			checkLend(t, "a wrong day", list, 8, 3, day, 60, false)
			checkLend(t, "a wrong day at first", nil, 8, 3, day, 14, false)
		}
	}
}

func TestDaysOfNoLoans(t *testing.T) {
	for _, day := range oddNumbers() {
		open, one := impl.OpenLoans(nil, 3, day)
		late, two := impl.LateOn(nil, day)
		has, three := impl.WhoHas(nil, 1, day)
		days, four := impl.DaysLent(nil, 1, day)
		if one || two || three || four || len(open)+len(late) != 0 || has != 0 || days != 0 {
			t.Errorf("the day %d: %v, %v, %v, %v", day, one, two, three, four)
		}
	}
	for _, list := range [][]impl.Loan{nil, {}} {
		eachEvening(list, 4000, func(b ledger) { checkEvening(t, list, b) })
		if sheet, ok := impl.FavoriteSheet(list); ok || sheet != 0 {
			t.Errorf("the favorite of none: %d, %v", sheet, ok)
		}
		checkNoReturn(t, "no Loans", list, 1, 5)
		checkProlong(t, "no Loans", list, 1, 5, 5, false)
		checkLend(t, "no Loans", list, 1, 999, 0, 14, true)
		checkLend(t, "no Loans", list, 999, 1, 3940, 60, true)
	}
}

func TestIdsOfLoansThatAreNone(t *testing.T) {
	for _, list := range [][]impl.Loan{nil, desk(), loansOf([5]int{1, 1, 0, 4000, -1}, [5]int{999, 999, 0, 4000, -1})} {
		for _, id := range append(oddNumbers(), 0, 1, 2, 998, 999, 1000, 1001) {
			want := id >= 1 && id <= 999
			open, one := impl.OpenLoans(list, id, 30)
			has, two := impl.WhoHas(list, id, 30)
			days, three := impl.DaysLent(list, id, 30)
			if one != want || two != want || three != want || !want && (len(open) != 0 || has != 0 || days != 0) {
				t.Errorf("%d: %v, %v; %d, %v; %d, %v", id, open, one, has, two, days, three)
			}
			if want {
				continue
			}
			checkNoFine(t, list, id, 30)
			checkNoReturn(t, "a wrong sheet", list, id, 100)
			checkProlong(t, "a wrong sheet", list, id, 30, 5, false)
			checkLend(t, "a wrong sheet", list, id, 5, 100, 14, false)
			checkLend(t, "a wrong Reader", list, 5, id, 100, 14, false)
			checkLend(t, "both wrong", list, id, id, 100, 14, false)
		}
		for _, id := range []int{1, 2, 998, 999} {
			checkLend(t, "another sheet", list, 444, id, 100, 14, true)
			if lastOf(list, id) < 0 {
				checkLend(t, "a new sheet", list, id, 444, 100, 14, true)
			}
		}
	}
}

func TestLendKnown(t *testing.T) {
	once := loansOf([5]int{5, 1, 10, 20, 15})
	for _, c := range []struct {
		name                     string
		list                     []impl.Loan
		sheet, reader, day, days int
		want                     bool
	}{
		{"for one day", desk(), 5, 9, 39, 1, true},
		{"for sixty days", desk(), 5, 9, 39, 60, true},
		{"for no day", desk(), 5, 9, 39, 0, false},
		{"for sixty-one days", desk(), 5, 9, 39, 61, false},
		{"for less than no day", desk(), 5, 9, 39, -1, false},
		{"for the most days", desk(), 5, 9, 39, largest, false},
		{"for the fewest days", desk(), 5, 9, 39, smallest, false},
		{"until it wraps around", desk(), 5, 9, 39, largest - 38, false},
		{"on the day of the last Loan", desk(), 5, 9, 39, 14, true},
		{"on the day before", desk(), 5, 9, 38, 14, false},
		{"on the day after", desk(), 5, 9, 40, 14, true},
		{"due on the greatest day", desk(), 5, 9, 3940, 60, true},
		{"due on the greatest day, one day only", desk(), 5, 9, 3999, 1, true},
		{"due just after it", desk(), 5, 9, 3941, 60, false},
		{"due just after it, one day only", desk(), 5, 9, 4000, 1, false},
		{"on the least day", nil, 5, 9, 0, 14, true},
		{"a sheet that is out", desk(), 1, 9, 50, 14, false},
		{"a sheet that is out, to the same Reader", desk(), 1, 4, 50, 14, false},
		{"a sheet that is out, long after Due", desk(), 2, 9, 3000, 14, false},
		{"a sheet that comes back later", desk(), 999, 9, 299, 14, false},
		{"a sheet that comes back on this day", desk(), 999, 9, 300, 14, true},
		{"a sheet that came back the day before", desk(), 999, 9, 301, 14, true},
		{"a sheet that came back", desk(), 7, 9, 39, 14, true},
		{"a sheet that came back, to the same Reader", desk(), 7, 4, 39, 14, true},
		{"on the day Out", once, 5, 1, 10, 14, false},
		{"on a day between", once, 5, 1, 12, 14, false},
		{"the day before Back", once, 5, 1, 14, 14, false},
		{"on the day Back", once, 5, 1, 15, 14, true},
		{"the day after Back", once, 5, 1, 16, 14, true},
		{"on the day Due", once, 5, 1, 20, 14, true},
		{"before the day Out", once, 5, 1, 9, 1, false},
		{"again on the day on which it came back", loansOf([5]int{5, 1, 10, 20, 10}), 5, 1, 10, 14, true},
		{"the fifteenth", differentLoans(14), 5, 1, 130, 14, true},
		{"the sixteenth", differentLoans(15), 5, 1, 140, 14, false},
		{"the fifteenth of a sheet", sameLoans(14, 3), 8, 1, 42, 14, true},
		{"the sixteenth of a sheet", sameLoans(15, 3), 8, 1, 45, 14, false},
	} {
		checkLend(t, c.name, c.list, c.sheet, c.reader, c.day, c.days, c.want)
	}
	for days := -2; days <= 63; days++ {
		checkLend(t, "days", once, 6, 1, 100, days, days >= 1 && days <= 60)
		checkLend(t, "days at the end", once, 6, 1, 3960, days, days >= 1 && days <= 40)
	}
}

func TestReturnKnown(t *testing.T) {
	lent := loansOf([5]int{1, 4, 20, 34, -1})
	for day, fine := range map[int]int{20: 0, 21: 0, 33: 0, 34: 0, 35: 10, 36: 20, 132: 980, 133: 990, 134: 1000, 135: 1000, 136: 1000, 3999: 1000, 4000: 1000} {
		checkReturn(t, "alone", lent, 1, day, fine)
		checkReturn(t, "among others", desk(), 1, day, fine)
	}
	for _, day := range []int{smallest, -2, -1, 0, 18, 19, 4001, largest} {
		checkNoReturn(t, "before Out, or no day", lent, 1, day)
		checkNoReturn(t, "before Out, or no day", desk(), 1, day)
	}
	checkNoReturn(t, "on the day of an earlier Loan", desk(), 1, 10)
	for day := 0; day <= 400; day++ {
		checkNoReturn(t, "a sheet that came back", desk(), 7, day)
		checkNoReturn(t, "a sheet that comes back", desk(), 999, day)
		checkNoReturn(t, "a sheet that was never lent", desk(), 3, day)
	}
	checkNoReturn(t, "back on the day 0", loansOf([5]int{1, 4, 0, 0, 0}), 1, 0)
	checkReturn(t, "due on the day Out", loansOf([5]int{1, 4, 20, 20, -1}), 1, 20, 0)
	checkReturn(t, "due on the day Out", loansOf([5]int{1, 4, 20, 20, -1}), 1, 21, 10)
	checkReturn(t, "the least day", loansOf([5]int{1, 4, 0, 0, -1}), 1, 0, 0)
	checkNoReturn(t, "before the least day", loansOf([5]int{1, 4, 0, 0, -1}), 1, -1)
	checkReturn(t, "the greatest day", loansOf([5]int{1, 4, 4000, 4000, -1}), 1, 4000, 0)
	checkReturn(t, "the greatest day", loansOf([5]int{1, 4, 0, 3901, -1}), 1, 4000, 990)
	checkReturn(t, "before the day of the Loan behind it", desk(), 1, 24, 0)
	checkReturn(t, "fifteen Loans", differentLoans(15), 500, 115, 1000)
	checkReturn(t, "fifteen Loans", differentLoans(15), 486, 155, 10)
}

func TestProlongKnown(t *testing.T) {
	lent := loansOf([5]int{1, 4, 20, 34, -1})
	for day := -2; day <= 50; day++ {
		for _, days := range []int{1, 7, 60} {
			want := day >= 20 && day <= 34
			checkProlong(t, "alone", lent, 1, day, days, want)
			checkProlong(t, "among others", desk(), 1, day, days, want)
		}
		for _, days := range []int{smallest, -1, 0, 61, 62, 1 << 32, 1<<32 + 7, largest - 34, largest} {
			checkProlong(t, "days", lent, 1, day, days, false)
		}
		checkProlong(t, "a sheet that came back", desk(), 7, day, 5, false)
		checkProlong(t, "a sheet that comes back", desk(), 999, day, 5, false)
		checkProlong(t, "a sheet that was never lent", desk(), 3, day, 5, false)
	}
	for days := -2; days <= 63; days++ {
		checkProlong(t, "days", lent, 1, 30, days, days >= 1 && days <= 60)
		for _, due := range []int{3939, 3940, 3941, 3990, 3999, 4000} {
			late := loansOf([5]int{1, 4, 3930, due, -1})
			checkProlong(t, "up to the greatest day", late, 1, 3935, days, days >= 1 && days <= 60 && due+days <= 4000)
		}
	}
	checkProlong(t, "due on the day Out", loansOf([5]int{1, 4, 20, 20, -1}), 1, 20, 60, true)
	checkProlong(t, "due on the day Out, late", loansOf([5]int{1, 4, 20, 20, -1}), 1, 21, 60, false)
	checkProlong(t, "due on the day Out, early", loansOf([5]int{1, 4, 20, 20, -1}), 1, 19, 60, false)
	checkProlong(t, "on the day on which it came back", loansOf([5]int{1, 4, 20, 34, 30}), 1, 30, 5, false)
	checkProlong(t, "before it comes back", loansOf([5]int{1, 4, 20, 34, 30}), 1, 25, 5, false)
}

// TestProlongAgain prolongs up to the greatest day, each time on the day Due.
func TestProlongAgain(t *testing.T) {
	list := loansOf([5]int{1, 4, 20, 40, -1})
	for due := 40; due < 4000; due += 60 {
		checkProlong(t, "again", list, 1, due, 60, true)
		checkProlong(t, "too late", list, 1, due+1, 60, false)
		list, _ = impl.ProlongLoan(list, 1, due, 60)
		checkFine(t, list, 1, due+60, 0)
	}
	checkProlong(t, "no more", list, 1, 4000, 1, false)
}

func TestOpenAndLateKnown(t *testing.T) {
	list := loansOf([5]int{9, 3, 10, 14, 20}, [5]int{4, 3, 10, 30, -1}, [5]int{2, 3, 12, 12, 25}, [5]int{30, 5, 12, 13, -1})
	for day, want := range map[int][2][]int{
		0: {}, 9: {}, 10: {{4, 9}, {}}, 11: {{4, 9}, {}}, 12: {{2, 4, 9}, {}}, 13: {{2, 4, 9}, {2}}, 14: {{2, 4, 9}, {2, 30}}, 15: {{2, 4, 9}, {2, 9, 30}},
		19: {{2, 4, 9}, {2, 9, 30}}, 20: {{2, 4}, {2, 30}}, 21: {{2, 4}, {2, 30}}, 24: {{2, 4}, {2, 30}}, 25: {{4}, {30}}, 26: {{4}, {30}},
		30: {{4}, {30}}, 31: {{4}, {4, 30}}, 4000: {{4}, {4, 30}},
	} {
		checkOpen(t, list, 3, day, want[0])
		checkLate(t, list, day, want[1])
	}
	checkOpen(t, list, 4, 20, nil)
	checkOpen(t, list, 5, 11, nil)
	checkOpen(t, list, 5, 12, []int{30})
}

// TestSheetsStandOnce lends one sheet to one Reader again and again.
func TestSheetsStandOnce(t *testing.T) {
	list := sameLoans(15, 3)
	for i := range list {
		list[i].Reader = 7
	}
	list[14].Back = -1
	for day := range 4001 {
		checkOpen(t, list, 7, day, []int{8})
		late := []int{8}
		if day <= 44 {
			late = nil
		}
		checkLate(t, list, day, late)
	}
	for i := range list {
		list[i].Due = list[i].Out
	}
	for day := range 50 {
		late := []int{8}
		if day <= 42 && day%3 == 0 {
			late = nil // the day Out of a Loan
		}
		checkLate(t, list, day, late)
	}
}

func TestFinesKnown(t *testing.T) {
	open, back := loansOf([5]int{1, 2, 0, 10, -1}), loansOf([5]int{1, 2, 0, 10, 15})
	for day, want := range map[int][2]int{
		0: {0, 0}, 9: {0, 0}, 10: {0, 0}, 11: {10, 10}, 14: {40, 40}, 15: {50, 50}, 16: {60, 50}, 17: {70, 50},
		108: {980, 50}, 109: {990, 50}, 110: {1000, 50}, 111: {1000, 50}, 112: {1000, 50}, 4000: {1000, 50},
	} {
		checkFine(t, open, 1, day, want[0])
		checkFine(t, back, 1, day, want[1])
	}
	for days, want := range map[int]int{-10: 0, -1: 0, 0: 0, 1: 10, 2: 20, 98: 980, 99: 990, 100: 1000, 101: 1000, 102: 1000, 3990: 1000} {
		list := loansOf([5]int{1, 2, 0, 10, 10 + days})
		for _, more := range []int{0, 1, 2, 500} {
			checkFine(t, list, 1, min(4000, 10+days+more), want)
		}
		if days > 0 {
			checkFine(t, list, 1, 9+days, min(1000, 10*(days-1)))
		}
	}
}

// TestFinesOfTheLastLoan has fines of earlier Loans of the sheet and of other sheets as well.
func TestFinesOfTheLastLoan(t *testing.T) {
	list := loansOf([5]int{1, 2, 0, 10, 50}, [5]int{1, 3, 50, 60, 63}, [5]int{2, 3, 55, 55, -1}, [5]int{1, 3, 100, 110, -1}, [5]int{3, 1, 101, 101, -1})
	for day, want := range map[int]int{0: 0, 11: 0, 50: 0, 61: 0, 99: 0, 100: 0, 110: 0, 111: 10, 113: 30, 4000: 1000} {
		checkFine(t, list, 1, day, want)
	}
	for day, want := range map[int]int{0: 0, 50: 0, 60: 0, 61: 10, 62: 20, 63: 30, 64: 30, 100: 30} {
		checkFine(t, list[:3], 1, day, want)
	}
	for day, want := range map[int]int{10: 0, 11: 10, 49: 390, 50: 400, 51: 400} {
		checkFine(t, list[:1], 1, day, want)
	}
	checkFine(t, list, 2, 100, 450)
	checkFine(t, list, 3, 100, 0)
	checkFine(t, list, 3, 102, 10)
	checkNoFine(t, list, 4, 100)
	checkNoFine(t, list[:1], 2, 100)
	checkNoFine(t, nil, 1, 100)
}

func TestDaysLentKnown(t *testing.T) {
	list := loansOf([5]int{1, 2, 10, 12, 15}, [5]int{2, 2, 11, 12, 11}, [5]int{1, 2, 15, 20, 15}, [5]int{1, 3, 20, 22, -1}, [5]int{3, 3, 20, 22, 4000})
	for day, want := range map[int]int{0: 0, 9: 0, 10: 0, 11: 1, 14: 4, 15: 5, 16: 5, 19: 5, 20: 5, 21: 6, 22: 7, 23: 8, 4000: 3985} {
		checkDays(t, list, 1, day, want)
	}
	for _, day := range []int{0, 10, 11, 12, 4000} {
		checkDays(t, list, 2, day, 0)
		checkDays(t, list, 4, day, 0)
		checkDays(t, list, 999, day, 0)
	}
	for day, want := range map[int]int{19: 0, 20: 0, 21: 1, 3999: 3979, 4000: 3980} {
		checkDays(t, list, 3, day, want)
	}
	whole := loansOf([5]int{1, 2, 0, 0, -1})
	checkDays(t, whole, 1, 0, 0)
	checkDays(t, whole, 1, 4000, 4000)
}

func TestFavoritesKnown(t *testing.T) {
	for _, c := range []struct {
		name   string
		sheets []int
		want   int
	}{
		{"one", []int{999}, 999},
		{"two, the smaller first", []int{5, 9}, 5},
		{"two, the smaller last", []int{9, 5}, 5},
		{"the greater one twice", []int{5, 9, 9}, 9},
		{"the first one twice", []int{9, 5, 9}, 9},
		{"both twice", []int{9, 5, 9, 5}, 5},
		{"both twice, the smaller between", []int{9, 5, 5, 9}, 5},
		{"three, two of them twice", []int{1, 999, 2, 999, 2}, 2},
		{"the smallest one only once", []int{1, 8, 8, 7, 7}, 7},
		{"fifteen", []int{15, 14, 13, 12, 11, 10, 9, 8, 7, 6, 5, 4, 3, 2, 1}, 1},
		{"fifteen, one of them twice", []int{15, 14, 13, 12, 11, 10, 9, 8, 7, 6, 5, 4, 3, 2, 14}, 14},
		{"three and four times", []int{3, 4, 3, 4, 3, 4, 4}, 4},
	} {
		list := []impl.Loan{}
		for i, sheet := range c.sheets {
			list = append(list, impl.Loan{Sheet: sheet, Reader: 1, Out: i, Due: i, Back: i})
		}
		if sheet, ok := impl.FavoriteSheet(list); !ok || sheet != c.want {
			t.Errorf("%s: %d, %v", c.name, sheet, ok)
		}
		checkFavorite(t, list)
	}
}

func TestLoanTextKnown(t *testing.T) {
	for want, row := range map[string][5]int{
		"1 to 3 0..14 back 10":            {1, 3, 0, 14, 10},
		"1 to 4 20..34":                   {1, 4, 20, 34, -1},
		"999 to 999 4000..4000 back 4000": {999, 999, 4000, 4000, 4000},
		"999 to 1 0..4000":                {999, 1, 0, 4000, -1},
		"1 to 1 0..0 back 0":              {1, 1, 0, 0, 0},
		"1 to 1 0..0":                     {1, 1, 0, 0, -1},
		"10 to 200 7..21 back 4000":       {10, 200, 7, 21, 4000},
		"10 to 200 7..21 back 7":          {10, 200, 7, 21, 7},
		"123 to 456 789..1011 back 1213":  {123, 456, 789, 1011, 1213},
	} {
		if text, ok := impl.LoanText(loansOf(row)[0]); !ok || text != want {
			t.Errorf("%v: %q, %v", row, text, ok)
		}
	}
	for _, list := range manyLoans() {
		for _, l := range list {
			want := strconv.Itoa(l.Sheet) + " to " + strconv.Itoa(l.Reader) + " " + strconv.Itoa(l.Out) + ".." + strconv.Itoa(l.Due)
			if l.Back >= 0 {
				want += " back " + strconv.Itoa(l.Back)
			}
			if text, ok := impl.LoanText(l); !ok || text != want {
				t.Errorf("%v: %q, %v", l, text, ok)
			}
		}
	}
}

func TestManyLoans(t *testing.T) {
	for _, list := range manyLoans() {
		checkAround(t, list)
	}
	for _, list := range [][]impl.Loan{desk(), differentLoans(15), sameLoans(15, 110)} {
		eachEvening(list, 4000, func(b ledger) { checkEvening(t, list, b) })
	}
}

// smallLoans returns all Loans of two sheets to some Readers with the days 0, 1 and 2. Due is only
// the day Out if they are short.
func smallLoans(readers int, short bool) []impl.Loan {
	list := []impl.Loan{}
	for sheet := 1; sheet <= 2; sheet++ {
		for reader := 1; reader <= readers; reader++ {
			for out := range 3 {
				for due := out; due <= 2 && !(short && due > out); due++ {
					for back := out - 1; back <= 2; back++ {
						l := impl.Loan{Sheet: sheet, Reader: reader, Out: out, Due: due, Back: back}
						if back < out {
							l.Back = -1
						}
						list = append(list, l)
					}
				}
			}
		}
	}
	return list
}

// eachSmallList sees all lists with so many of these Loans. The list is the caller's only until
// see returns.
func eachSmallList(size int, loans []impl.Loan, see func(list []impl.Loan)) {
	var goOn func(list []impl.Loan)
	goOn = func(list []impl.Loan) {
		if len(list) == size {
			see(list)
			return
		}
		for _, l := range loans {
			goOn(append(list, l))
		}
	}
	goOn(make([]impl.Loan, 0, size))
}

// checkChanges lends, returns and prolongs each sheet on each day up to the last one.
func checkChanges(t *testing.T, list []impl.Loan, last int, days ...int) {
	t.Helper()
	eachEvening(list, last, func(b ledger) {
		for sheet := 1; sheet <= 3; sheet++ {
			at := lastOf(list, sheet)
			in := at < 0 || !b.open[at]
			checkLend(t, "small", list, sheet, 2, b.day, 1, in && (len(list) == 0 || list[len(list)-1].Out <= b.day))
			lent := at >= 0 && list[at].Back == -1
			if lent && b.open[at] {
				checkReturn(t, "small", list, sheet, b.day, b.cents[at])
			} else {
				checkNoReturn(t, "small", list, sheet, b.day)
			}
			for _, more := range days {
				checkProlong(t, "small", list, sheet, b.day, more, lent && b.open[at] && b.day <= list[at].Due)
			}
		}
	})
}

func TestAllSmallLoans(t *testing.T) {
	valid, invalid := 0, 0
	see := func(list []impl.Loan) {
		want := areLoansByHand(list)
		if impl.AreLoans(list) != want {
			t.Errorf("%v: %v", list, !want)
		}
		if !want {
			invalid++
			return
		}
		valid++
		eachEvening(list, 4, func(b ledger) { checkEvening(t, list, b) })
		checkFavorite(t, list)
		checkChanges(t, list, 4, 1, 60)
	}
	for size := range 3 {
		eachSmallList(size, smallLoans(2, false), see)
	}
	eachSmallList(3, smallLoans(1, true), see)
	if valid < 3000 || invalid < 3000 {
		t.Errorf("%d lists are valid, %d are not", valid, invalid)
	}
}

// TestLentSheetsAreWithTheirReaders checks promise 11: what is lent is with its Reader and in no
// other hands, and what is returned is in.
func TestLentSheetsAreWithTheirReaders(t *testing.T) {
	done := 0
	for _, list := range manyLoans() {
		first := 0
		if len(list) > 0 {
			first = list[len(list)-1].Out
		}
		for _, day := range []int{first, first + 1, first + 110} {
			for _, sheet := range []int{1, 2, 30, 999} {
				has, known := impl.WhoHas(list, sheet, day)
				lent, ok := impl.LendSheet(list, sheet, 77, day, 14)
				if want := known && has == 0 && len(list) < 15 && day+14 <= 4000; ok != want {
					t.Errorf("%v: %d, which is with %d, lent on %d: %v", list, sheet, has, day, ok)
				}
				if ok {
					checkHands(t, lent, list, sheet, day)
					done++
				}
			}
		}
	}
	if done < 500 {
		t.Errorf("only %d sheets were lent", done)
	}
}

// checkHands asks for a sheet that was lent to the Reader 77 on a day, and after its return.
func checkHands(t *testing.T, lent, before []impl.Loan, sheet, day int) {
	t.Helper()
	readers := map[int]bool{77: true, 78: true}
	for _, l := range before {
		readers[l.Reader] = true
	}
	for _, later := range []int{day, day + 1, day + 14, day + 15, 4000} {
		if later > 4000 {
			continue
		}
		checkWho(t, lent, sheet, later, 77)
		for reader := range readers {
			open, ok := impl.OpenLoans(lent, reader, later)
			if !ok || slices.Contains(open, sheet) != (reader == 77) {
				t.Errorf("%v, the day %d: %d has %v, %v", lent, later, reader, open, ok)
			}
		}
		checkLend(t, "in other hands", lent, sheet, 78, min(later, 3999), 1, false)
		returned, _, ok := impl.ReturnSheet(lent, sheet, later)
		if !ok || len(returned) != len(lent) {
			t.Fatalf("%v: %d is not returned on %d: %v, %v", lent, sheet, later, returned, ok)
		}
		checkNoReturn(t, "again", returned, sheet, later)
		for _, last := range []int{later, min(4000, later+1), 4000} {
			checkWho(t, returned, sheet, last, 0)
			checkOpen(t, returned, 77, last, nil)
		}
		if later > day {
			checkWho(t, returned, sheet, later-1, 77)
		}
		checkLend(t, "the same day", returned, sheet, 78, later, 1, len(returned) < 15 && later < 4000)
	}
	for earlier := max(0, day-2); earlier < day; earlier++ {
		has, _ := impl.WhoHas(before, sheet, earlier)
		checkWho(t, lent, sheet, earlier, has)
	}
}

// TestChangesOfManyLoans returns and prolongs each Loan around its days.
func TestChangesOfManyLoans(t *testing.T) {
	for _, list := range manyLoans() {
		for i, l := range list {
			out := lastOf(list, l.Sheet) == i && l.Back == -1
			for _, day := range []int{l.Out - 1, l.Out, l.Out + 1, l.Due - 1, l.Due, l.Due + 1, l.Due + 99, l.Due + 100, l.Due + 101} {
				if out && day >= l.Out && day <= 4000 {
					checkReturn(t, "many", list, l.Sheet, day, min(1000, 10*max(0, day-l.Due)))
				} else if out {
					checkNoReturn(t, "many", list, l.Sheet, day)
				}
				for _, days := range []int{0, 1, 30, 60, 61} {
					if out {
						checkProlong(t, "many", list, l.Sheet, day, days, days >= 1 && days <= 60 && l.Out <= day && day <= l.Due && l.Due+days <= 4000)
					}
				}
			}
		}
	}
}

// callLoanFunctions calls each function of the chapter.
func callLoanFunctions(list []impl.Loan) {
	impl.AreLoans(list)
	impl.FavoriteSheet(list)
	for _, day := range []int{smallest, -1, 0, 5, 20, 34, 39, 300, 3950, 4000, 4001, largest} {
		impl.LateOn(list, day)
		for _, id := range []int{smallest, 0, 1, 2, 3, 7, 8, 30, 444, 500, 999, 1000, largest} {
			impl.OpenLoans(list, id, day)
			impl.FineOn(list, id, day)
			impl.WhoHas(list, id, day)
			impl.DaysLent(list, id, day)
			impl.ReturnSheet(list, id, day)
			for _, days := range []int{smallest, 0, 1, 60, largest} {
				impl.LendSheet(list, id, 5, day, days)
				impl.ProlongLoan(list, id, day, days)
			}
		}
	}
	for _, l := range list[:min(len(list), 20)] {
		impl.LoanText(l)
		impl.ReturnSheet(list, l.Sheet, l.Due)
		impl.ProlongLoan(list, l.Sheet, l.Due, 1)
	}
}

// TestLoanFunctionsLeaveTheListAlone looks behind the ends of the lists as well.
func TestLoanFunctionsLeaveTheListAlone(t *testing.T) {
	lists := manyLoans()
	for name, list := range invalidLoans() {
		if name != "very many" {
			lists = append(lists, list)
		}
	}
	behind := loansOf([5]int{-7, -7, -7, -7, -7}, [5]int{1, 1, 4000, 4000, -1})
	for _, list := range lists {
		guard := slices.Concat(list, behind)
		callLoanFunctions(guard[:len(list)])
		if !slices.Equal(guard, slices.Concat(list, behind)) {
			t.Fatalf("%v has become %v", list, guard)
		}
	}
}

// TestLoansBehindTheListAreNotThere cuts off Loans that would count.
func TestLoansBehindTheListAreNotThere(t *testing.T) {
	list := loansOf([5]int{1, 3, 10, 24, -1}, [5]int{1, 4, 5, 34, -1})[:1]
	if !impl.AreLoans(list) {
		t.Error("a Loan behind the list counts")
	}
	checkEvening(t, list, ledger{day: 30, open: []bool{true}, cents: []int{60}, nights: map[int]int{1: 20}})
	checkLend(t, "cut off", list, 2, 5, 10, 14, true)
	checkReturn(t, "cut off", list, 1, 24, 0)
	checkProlong(t, "cut off", list, 1, 24, 5, true)
	if list[:2][1] != (impl.Loan{Sheet: 1, Reader: 4, Out: 5, Due: 34, Back: -1}) {
		t.Errorf("behind the list: %v", list[:2])
	}
	checkNoFine(t, list[:0], 1, 30)
	checkFavorite(t, list[:0])
}

// TestLoanResultsOwnTheirMemory spoils each result and asks again.
func TestLoanResultsOwnTheirMemory(t *testing.T) {
	list := make([]impl.Loan, 0, 50)
	list = append(list, desk()...)
	for range 2 {
		open, one := impl.OpenLoans(list, 3, 30)
		late, two := impl.LateOn(list, 50)
		lent, three := impl.LendSheet(list, 5, 3, 39, 14)
		more, four := impl.LendSheet(list, 6, 3, 39, 14)
		returned, _, five := impl.ReturnSheet(list, 1, 40)
		prolonged, six := impl.ProlongLoan(list, 1, 34, 7)
		if !one || !two || !three || !four || !five || !six || !slices.Equal(list, desk()) || !slices.Equal(open, []int{2, 999}) || !slices.Equal(late, []int{1, 2, 999}) ||
			!slices.Equal(lent[:8], desk()) || lent[8].Sheet != 5 || !slices.Equal(more[:8], desk()) || more[8].Sheet != 6 ||
			len(returned) != 8 || returned[4].Back != 40 || len(prolonged) != 8 || prolonged[4].Due != 41 {
			t.Fatalf("%v, %v, %v, %v, %v, %v", open, late, lent, more, returned, prolonged)
		}
		for _, loans := range [][]impl.Loan{lent, returned, prolonged} {
			clear(loans[:cap(loans)])
		}
		clear(open[:cap(open)])
		clear(late[:cap(late)])
		if more[8].Sheet != 6 || !slices.Equal(more[:8], desk()) {
			t.Fatalf("two results share memory: %v", more)
		}
	}
}
