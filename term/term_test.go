package term_test

import (
	"math"
	"math/big"
	"testing"
	"time"

	"toll/api"
	"toll/term"
)

const (
	firstDay = -719162 // 0001-01-01
	lastDay  = 2932896 // 9999-12-31
	none     = math.MinInt
)

// far are numbers that neither a kind, an anchor, a count of days nor a day is.
var far = []int{-1 << 31, 1 << 31, 1<<31 + 1, -1 << 32, 1 << 32, 1<<32 + 1, 1<<32 + 31, -1 << 62, 1 << 62, 1<<62 + 1, math.MaxInt, math.MaxInt - 1, math.MaxInt - 366, math.MinInt, math.MinInt + 1, math.MinInt + 366}

// on is a date's day, by the library's calendar.
func on(year, month, day int) int {
	return int(time.Date(year, time.Month(month), day, 0, 0, 0, 0, time.UTC).Unix() / 86400)
}

func dayOfMonth(day int) int {
	return time.Unix(int64(day)*86400, 0).UTC().Day()
}

// isBound holds the words of the chapter: the anchor's day, or the month's last one, if it has no such day.
func isBound(anchor, day int) bool {
	d := dayOfMonth(day)
	return d == anchor || d < anchor && dayOfMonth(day+1) == 1
}

// walk goes from day to day, in steps of one, to the first bound; none, where the days that have a date end.
func walk(anchor, day, step int) int {
	for ; day >= firstDay && day <= lastDay; day += step {
		if isBound(anchor, day) {
			return day
		}
	}
	return none
}

// answers holds an answer of a day, or, of none, of ErrArg with nothing beside it (P4).
func answers(t *testing.T, what string, anchor, day, want, got int, e api.Errno) {
	t.Helper()
	if want == none && (got != 0 || e != api.ErrArg) {
		t.Fatalf("P801: %s of %d, anchor %d: %d, %v, not ErrArg", what, day, anchor, got, e)
	}
	if want != none && (got != want || e != api.OK) {
		t.Fatalf("P801: %s of %d, anchor %d: %d, %v, not %d", what, day, anchor, got, e, want)
	}
}

func isNext(t *testing.T, anchor, day, want int) {
	t.Helper()
	got, e := term.Next(api.TMonth, anchor, 0, day)
	answers(t, "Next", anchor, day, want, got, e)
}

func isLast(t *testing.T, anchor, day, want int) {
	t.Helper()
	got, e := term.Last(anchor, day)
	answers(t, "Last", anchor, day, want, got, e)
}

func isLater(t *testing.T, days, day, want int) {
	t.Helper()
	got, e := term.Next(api.TDays, 0, days, day)
	answers(t, "Next by days", days, day, want, got, e)
}

func TestP801KindsThatAreNone(t *testing.T) {
	for _, kind := range append(far, -1, 2, 3, -2, 255, 256, 257) {
		for _, c := range [][3]int{{1, 1, 0}, {31, 366, 19000}, {0, 0, 0}, {1, 0, 0}, {0, 1, 0}, {99, 999, lastDay + 1}, {1, 1, lastDay}, {1, 1, math.MaxInt}, {math.MinInt, math.MinInt, math.MinInt}} {
			if n, e := term.Next(kind, c[0], c[1], c[2]); n != 0 || e != api.ErrKind {
				t.Errorf("P801: Next of kind %d, %v: %d, %v, not ErrKind", kind, c, n, e)
			}
		}
	}
}

func TestP801Example(t *testing.T) {
	isNext(t, 31, on(2023, 1, 31), on(2023, 2, 28))
	isNext(t, 31, on(2023, 2, 28), on(2023, 3, 31))
}

// TestP801Months: a day, and the bounds around it.
func TestP801Months(t *testing.T) {
	for _, c := range []struct{ anchor, day, last, next int }{
		{1, on(1970, 1, 1), on(1970, 1, 1), on(1970, 2, 1)},
		{1, on(1969, 12, 31), on(1969, 12, 1), on(1970, 1, 1)},
		{2, on(1970, 1, 1), on(1969, 12, 2), on(1970, 1, 2)},
		{17, on(2026, 11, 16), on(2026, 10, 17), on(2026, 11, 17)},
		{17, on(2026, 11, 17), on(2026, 11, 17), on(2026, 12, 17)},
		{17, on(2026, 11, 18), on(2026, 11, 17), on(2026, 12, 17)},
		{17, on(2026, 12, 17), on(2026, 12, 17), on(2027, 1, 17)},
		{17, on(2027, 1, 16), on(2026, 12, 17), on(2027, 1, 17)},
		{28, on(2023, 2, 27), on(2023, 1, 28), on(2023, 2, 28)},
		{28, on(2024, 2, 28), on(2024, 2, 28), on(2024, 3, 28)},
		{28, on(2024, 2, 29), on(2024, 2, 28), on(2024, 3, 28)},
		{29, on(2023, 2, 28), on(2023, 2, 28), on(2023, 3, 29)},
		{29, on(2024, 2, 28), on(2024, 1, 29), on(2024, 2, 29)},
		{29, on(2024, 2, 29), on(2024, 2, 29), on(2024, 3, 29)},
		{29, on(1900, 2, 27), on(1900, 1, 29), on(1900, 2, 28)},
		{29, on(2000, 2, 28), on(2000, 1, 29), on(2000, 2, 29)},
		{30, on(2023, 2, 27), on(2023, 1, 30), on(2023, 2, 28)},
		{30, on(2023, 2, 28), on(2023, 2, 28), on(2023, 3, 30)},
		{30, on(2023, 3, 1), on(2023, 2, 28), on(2023, 3, 30)},
		{30, on(2023, 3, 31), on(2023, 3, 30), on(2023, 4, 30)},
		{30, on(2024, 2, 28), on(2024, 1, 30), on(2024, 2, 29)},
		{31, on(2023, 2, 1), on(2023, 1, 31), on(2023, 2, 28)},
		{31, on(2024, 2, 28), on(2024, 1, 31), on(2024, 2, 29)},
		{31, on(2024, 2, 29), on(2024, 2, 29), on(2024, 3, 31)},
		{31, on(2023, 4, 29), on(2023, 3, 31), on(2023, 4, 30)},
		{31, on(2023, 4, 30), on(2023, 4, 30), on(2023, 5, 31)},
		{31, on(2023, 12, 30), on(2023, 11, 30), on(2023, 12, 31)},
		{31, on(2023, 12, 31), on(2023, 12, 31), on(2024, 1, 31)},
		{31, on(2100, 2, 28), on(2100, 2, 28), on(2100, 3, 31)},
	} {
		isLast(t, c.anchor, c.day, c.last)
		isNext(t, c.anchor, c.day, c.next)
	}
}

func TestP801AnchorsThatAreNone(t *testing.T) {
	for _, anchor := range append(far, 0, 32, 33, -1, -31, 60, 255, 256, 257) {
		for _, day := range []int{0, 19000, -1, firstDay, lastDay, lastDay + 1, firstDay - 1, math.MaxInt, math.MinInt} {
			isNext(t, anchor, day, none)
			isLast(t, anchor, day, none)
		}
	}
}

func TestP801DaysThatHaveNoDate(t *testing.T) {
	for _, day := range append(far, firstDay-1, firstDay-2, firstDay-31, firstDay-366, lastDay+1, lastDay+2, lastDay+31, lastDay+366) {
		for anchor := 1; anchor <= 31; anchor++ {
			isNext(t, anchor, day, none)
			isLast(t, anchor, day, none)
		}
		for days := 1; days <= 366; days++ {
			isLater(t, days, day, none)
		}
	}
}

// TestP801TheEnds: the first and the last bound that have a date, for each anchor.
func TestP801TheEnds(t *testing.T) {
	for anchor := 1; anchor <= 31; anchor++ {
		first, last := on(1, 1, anchor), on(9999, 12, anchor)
		for day := firstDay; day < first; day++ {
			isLast(t, anchor, day, none)
			isNext(t, anchor, day, first)
		}
		isLast(t, anchor, first, first)
		isNext(t, anchor, last-1, last)
		for day := last; day <= lastDay; day++ {
			isLast(t, anchor, day, last)
			isNext(t, anchor, day, none)
		}
	}
}

func TestP801ByDays(t *testing.T) {
	for _, day := range []int{0, -1, 1, -3, 19000, api.LastTick / api.Day, firstDay, firstDay + 1, lastDay - 366, on(2024, 2, 28), on(2023, 12, 31)} {
		for days := 1; days <= 366; days++ {
			isLater(t, days, day, day+days)
		}
	}
	for ahead := 0; ahead <= 366; ahead++ { // days ahead of the last one
		for days := 1; days <= 366; days++ {
			want := lastDay - ahead + days
			if want > lastDay {
				want = none
			}
			isLater(t, days, lastDay-ahead, want)
		}
	}
}

func TestP801DaysThatAreNone(t *testing.T) {
	for _, days := range append(far, 0, -1, -366, 367, 368, 1000, 1<<8+366, 1<<16+1) {
		for _, day := range []int{0, -1, 19000, firstDay, lastDay, lastDay + 1, firstDay - 1, math.MaxInt, math.MinInt} {
			isLater(t, days, day, none)
		}
	}
}

// TestP801WhatTheKindDoesNotUse: months ask nothing of the days, and days nothing of the anchor.
func TestP801WhatTheKindDoesNotUse(t *testing.T) {
	for _, n := range append(far, 0, -1, 1, 31, 32, 366, 367) {
		if got, e := term.Next(api.TMonth, 15, n, 0); got != 14 || e != api.OK {
			t.Errorf("P801: months, days %d: %d, %v", n, got, e)
		}
		if got, e := term.Next(api.TDays, n, 30, 0); got != 30 || e != api.OK {
			t.Errorf("P801: days, anchor %d: %d, %v", n, got, e)
		}
	}
}

// runs are days, from one to another: leap years of each kind and others, and both ends.
var runs = [][2]int{
	{firstDay, on(9, 1, 1)}, {on(396, 1, 1), on(405, 1, 1)}, {on(1896, 1, 1), on(1905, 1, 1)},
	{on(1966, 1, 1), on(2033, 1, 1)}, {on(2096, 1, 1), on(2105, 1, 1)}, {on(9992, 1, 1), lastDay},
}

// TestP803EachDay holds each day of whole runs against days that are gone through one by one.
func TestP803EachDay(t *testing.T) {
	for _, run := range runs {
		for anchor := 1; anchor <= 31; anchor++ {
			last, next := walk(anchor, run[0], -1), walk(anchor, run[0]+1, 1)
			for day := run[0]; day <= run[1]; day++ {
				if day == next {
					last, next = next, walk(anchor, day+1, 1)
				}
				isLast(t, anchor, day, last)
				isNext(t, anchor, day, next)
			}
		}
	}
}

// TestP803BoundByBound goes from bound to bound through all years, and looks at the days beside each of them.
func TestP803BoundByBound(t *testing.T) {
	for _, anchor := range []int{1, 15, 28, 29, 30, 31} {
		last, seen := on(1, 1, anchor), 1
		isLast(t, anchor, last, last)
		for {
			next, e := term.Next(api.TMonth, anchor, 0, last)
			if e != api.OK {
				break
			}
			isLast(t, anchor, next, next)
			isLast(t, anchor, next-1, last)
			isNext(t, anchor, next-1, next)
			isNext(t, anchor, last+1, next)
			last, seen = next, seen+1
		}
		if last != on(9999, 12, anchor) || seen != 9999*12 {
			t.Errorf("P803: anchor %d: %d bounds up to %d", anchor, seen, last)
		}
	}
}

// share works in numbers of any size.
func share(n, part, whole int) int {
	x := new(big.Int).Mul(big.NewInt(int64(n)), big.NewInt(int64(part)))
	return int(x.Div(x, big.NewInt(int64(whole))).Int64())
}

func isShare(t *testing.T, n, part, whole, want int) {
	t.Helper()
	if got := term.Share(n, part, whole); got != want {
		t.Fatalf("P802: Share(%d, %d, %d): %d, not %d", n, part, whole, got, want)
	}
}

func TestP802KnownShares(t *testing.T) {
	for _, c := range [][4]int{
		{0, 0, 1, 0}, {0, 1, 1, 0}, {1, 0, 1, 0}, {1, 1, 1, 1},
		{10, 1, 3, 3}, {10, 2, 3, 6}, {10, 3, 3, 10}, {2, 1, 2, 1}, {3, 1, 2, 1}, {5, 3, 4, 3},
		{100, 15, 30, 50}, {100, 10, 31, 32}, {7, 30, 31, 6}, {1, 399, 400, 0}, {400, 1, 400, 1}, {399, 1, 400, 0}, {401, 399, 400, 399},
		{api.MaxUnits, 399, 400, 997500000}, {api.MaxUnits, 400, 400, api.MaxUnits}, {api.MaxUnits, 0, 400, 0},
		{api.MaxUnits, 1, 3, 333333333}, {api.MaxUnits, 2, 3, 666666666}, {api.MaxUnits - 1, 365, 366, 997267758}, {api.MaxUnits, 1, 1, api.MaxUnits},
	} {
		isShare(t, c[0], c[1], c[2], c[3])
	}
}

func TestP802EachPart(t *testing.T) {
	for whole := 1; whole <= 400; whole++ {
		for part := 0; part <= whole; part++ {
			for _, n := range []int{0, 1, 2, 7, 399, 400, 401, 12345, 1<<31 - 1 - 1<<30, 999999937, api.MaxUnits - 1, api.MaxUnits} {
				isShare(t, n, part, whole, share(n, part, whole))
			}
		}
		isShare(t, api.MaxUnits, 0, whole, 0)
		isShare(t, api.MaxUnits, whole, whole, api.MaxUnits)
	}
}

// TestP1SharesThatMayNotBe: nothing is said of what they answer, but that they do.
func TestP1SharesThatMayNotBe(t *testing.T) {
	odd := append(far, 0, 1, -1, 2, -2, 400, 401, api.MaxUnits, api.MaxUnits+1)
	for _, n := range odd {
		for _, part := range odd {
			for _, whole := range odd {
				term.Share(n, part, whole)
			}
		}
	}
}

// TestP3Again: nothing is kept from call to call, whatever was asked in between.
func TestP3Again(t *testing.T) {
	for range 2 {
		isNext(t, 31, on(2023, 1, 31), on(2023, 2, 28))
		isNext(t, 31, lastDay, none)
		isLast(t, 30, on(2024, 3, 1), on(2024, 2, 29))
		isLast(t, 2, firstDay, none)
		isLater(t, 30, 0, 30)
		isShare(t, 10, 1, 3, 3)
	}
}

// FuzzTerms looks for numbers that P801 to P803 do not hold for, and for such as are not borne (P1).
func FuzzTerms(f *testing.F) {
	for _, n := range append(far, 0, 1, 2, 31, 32, 366, 367, firstDay, lastDay, firstDay-1, lastDay+1) {
		f.Add(n, 31, 30, 19000)
		f.Add(api.TMonth, n, 0, 19000)
		f.Add(api.TDays, 0, n, 19000)
		f.Add(api.TMonth, 31, 0, n)
		f.Add(api.TDays, 0, 30, n)
	}
	f.Fuzz(func(t *testing.T, kind, anchor, days, day int) {
		last, months, later := none, none, none
		if dated := day >= firstDay && day <= lastDay; dated {
			if anchor >= 1 && anchor <= 31 {
				last, months = walk(anchor, day, -1), walk(anchor, day+1, 1)
			}
			if days >= 1 && days <= 366 && day+days <= lastDay {
				later = day + days
			}
		}
		isLast(t, anchor, day, last)
		isNext(t, anchor, day, months)
		isLater(t, days, day, later)
		if _, e := term.Next(kind, anchor, days, day); (e == api.ErrKind) != (kind != api.TMonth && kind != api.TDays) {
			t.Errorf("P801: kind %d: %v", kind, e)
		}
		got := term.Share(kind, anchor, days)
		if kind >= 0 && kind <= api.MaxUnits && days >= 1 && days <= 400 && anchor >= 0 && anchor <= days && got != share(kind, anchor, days) {
			t.Errorf("P802: Share(%d, %d, %d): %d", kind, anchor, days, got)
		}
	})
}
