package civil_test

import (
	"math"
	"testing"
	"time"

	"toll/api"
	"toll/civil"
)

const (
	firstDay = -719162 // 0001-01-01
	lastDay  = 2932896 // 9999-12-31
)

func date(year, month, day int) api.Date {
	return api.Date{Year: year, Month: month, Day: day}
}

// follow is the next date, by the rhyme of the months and not by what civil says.
func follow(d api.Date) api.Date {
	last := 31
	switch d.Month {
	case 4, 6, 9, 11:
		last = 30
	case 2:
		last = 28
		if leap(d.Year) {
			last = 29
		}
	}
	switch {
	case d.Day < last:
		return date(d.Year, d.Month, d.Day+1)
	case d.Month < 12:
		return date(d.Year, d.Month+1, 1)
	}
	return date(d.Year+1, 1, 1)
}

// leap takes P701's rules one by one, the one that holds over the others first.
func leap(year int) bool {
	switch {
	case year%400 == 0:
		return true
	case year%100 == 0:
		return false
	}
	return year%4 == 0
}

// isDay holds both ways of P702 for a date that there is.
func isDay(t *testing.T, day int, want api.Date) {
	t.Helper()
	if d, e := civil.Of(day); d != want || e != api.OK {
		t.Fatalf("P702: Of(%d): %v, %v, not %v", day, d, e, want)
	}
	if n, e := civil.Number(want); n != day || e != api.OK {
		t.Fatalf("P702: Number(%v): %d, %v, not %d", want, n, e, day)
	}
}

// noDate holds that Number refuses it, with nothing beside the error (P4).
func noDate(t *testing.T, d api.Date) {
	t.Helper()
	if n, e := civil.Number(d); n != 0 || e != api.ErrArg {
		t.Fatalf("P702: Number(%v): %d, %v, not ErrArg", d, n, e)
	}
}

// noDay holds that Of refuses it, with nothing beside the error (P4).
func noDay(t *testing.T, day int) {
	t.Helper()
	if d, e := civil.Of(day); d != (api.Date{}) || e != api.ErrArg {
		t.Fatalf("P702: Of(%d): %v, %v, not ErrArg", day, d, e)
	}
}

func TestP701LeapOfKnownYears(t *testing.T) {
	for _, c := range []struct {
		year int
		want bool
	}{
		{1, false}, {2, false}, {3, false}, {4, true}, {5, false}, {8, true},
		{96, true}, {99, false}, {100, false}, {101, false}, {104, true},
		{200, false}, {300, false}, {400, true}, {404, true}, {800, true},
		{1600, true}, {1700, false}, {1800, false}, {1900, false}, {1970, false},
		{1996, true}, {1999, false}, {2000, true}, {2001, false}, {2023, false},
		{2024, true}, {2026, false}, {2100, false}, {2400, true}, {9996, true},
		{9999, false}, {10000, true}, {10100, false},
		{0, true}, {-1, false}, {-2, false}, {-3, false}, {-4, true}, {-96, true},
		{-100, false}, {-200, false}, {-300, false}, {-400, true}, {-404, true}, {-500, false},
		{math.MaxInt, false}, {math.MaxInt - 3, true}, {math.MaxInt - 7, false},
		{math.MinInt, true}, {math.MinInt + 1, false}, {math.MinInt + 4, true}, {math.MinInt + 8, false},
	} {
		if civil.Leap(c.year) != c.want {
			t.Errorf("P701: Leap(%d): %v", c.year, !c.want)
		}
	}
}

func TestP701LeapOfManyYears(t *testing.T) {
	for _, from := range []int{-12000, math.MinInt, math.MaxInt - 24000} {
		for year := from; year < from+24000; year++ {
			if civil.Leap(year) != leap(year) {
				t.Fatalf("P701: Leap(%d): %v", year, civil.Leap(year))
			}
		}
	}
}

// everyYear are years of each kind, also such as no date has.
var everyYear = []int{1, 4, 100, 400, 1900, 2000, 2023, 2024, 9999, 10000, 0, -1, -4, -100, -400, math.MaxInt, math.MaxInt - 3, math.MinInt, math.MinInt + 1}

func TestP701LengthOfEachMonth(t *testing.T) {
	want := [13]int{0, 31, 28, 31, 30, 31, 30, 31, 31, 30, 31, 30, 31}
	for _, year := range everyYear {
		for month := 1; month <= 12; month++ {
			days := want[month]
			if month == 2 && leap(year) {
				days = 29
			}
			if n := civil.Length(year, month); n != days {
				t.Errorf("P701: Length(%d, %d): %d, not %d", year, month, n, days)
			}
		}
	}
}

func TestP701LengthOfNoMonth(t *testing.T) {
	for _, year := range everyYear {
		for _, month := range []int{0, 13, 14, -1, -2, -12, 24, 1 << 32, 1<<32 + 2, 1<<62 + 2, -1 << 62, 2 - 1<<62, math.MaxInt, math.MinInt, math.MinInt + 1, math.MinInt + 2} {
			if n := civil.Length(year, month); n != 0 {
				t.Errorf("P701: Length(%d, %d): %d, not 0", year, month, n)
			}
		}
	}
}

func TestP702KnownDates(t *testing.T) {
	for _, c := range []struct {
		day  int
		want api.Date
	}{
		{0, date(1970, 1, 1)}, {1, date(1970, 1, 2)}, {-1, date(1969, 12, 31)},
		{30, date(1970, 1, 31)}, {31, date(1970, 2, 1)}, {58, date(1970, 2, 28)}, {59, date(1970, 3, 1)},
		{364, date(1970, 12, 31)}, {365, date(1971, 1, 1)},
		{789, date(1972, 2, 29)}, {790, date(1972, 3, 1)}, {1095, date(1972, 12, 31)}, {1096, date(1973, 1, 1)},
		{10956, date(1999, 12, 31)}, {10957, date(2000, 1, 1)},
		{11015, date(2000, 2, 28)}, {11016, date(2000, 2, 29)}, {11017, date(2000, 3, 1)}, {11322, date(2000, 12, 31)},
		{47540, date(2100, 2, 28)}, {47541, date(2100, 3, 1)},
		{-25509, date(1900, 2, 28)}, {-25508, date(1900, 3, 1)},
		{-141428, date(1582, 10, 14)}, {-141427, date(1582, 10, 15)},
		{20774, date(2026, 11, 17)}, {api.LastTick / api.Day, date(9575, 4, 19)},
		{firstDay, date(1, 1, 1)}, {firstDay + 364, date(1, 12, 31)}, {firstDay + 365, date(2, 1, 1)},
		{lastDay, date(9999, 12, 31)}, {lastDay - 364, date(9999, 1, 1)}, {lastDay - 365, date(9998, 12, 31)},
	} {
		isDay(t, c.day, c.want)
	}
}

func TestP702DaysOutside(t *testing.T) {
	for _, day := range []int{
		firstDay - 1, firstDay - 2, firstDay - 366, lastDay + 1, lastDay + 2, lastDay + 366,
		1 << 31, -1 << 31, 1 << 32, -1 << 32, 1 << 62, -1 << 62,
		math.MaxInt, math.MaxInt - 1, math.MaxInt + firstDay, math.MaxInt + firstDay + 1,
		math.MinInt, math.MinInt + 1, math.MinInt - firstDay, math.MinInt - firstDay - 1,
	} {
		noDay(t, day)
	}
}

// far are numbers that no year, month or day is.
var far = []int{-1, -12, -31, -400, 1 << 31, -1 << 31, 1 << 32, 1<<32 + 1, 1 << 62, 1<<62 + 1, -1 << 62, 1 - 1<<62, math.MaxInt, math.MaxInt - 1, math.MinInt, math.MinInt + 1, math.MinInt + 2}

func TestP702DatesOutOfBounds(t *testing.T) {
	for _, d := range []api.Date{
		{}, date(0, 1, 1), date(0, 12, 31), date(-1, 1, 1), date(10000, 1, 1), date(10001, 1, 1), date(10000, 12, 31),
		date(2023, 0, 1), date(2023, 13, 1), date(1, 0, 1), date(9999, 13, 1), date(2023, 0, 0), date(2023, 13, 0),
		date(0, 0, 1), date(0, 1, 0), date(10000, 13, 32), date(0, 0, -1),
	} {
		noDate(t, d)
	}
	for _, n := range far {
		noDate(t, date(n, 1, 1))
		noDate(t, date(2024, n, 1))
		noDate(t, date(2024, n, 0))
		noDate(t, date(2024, 2, n))
		noDate(t, date(n, n, n))
	}
}

func TestP702DaysOfMonths(t *testing.T) {
	lengths := [13]int{0, 31, 28, 31, 30, 31, 30, 31, 31, 30, 31, 30, 31}
	for year := 1; year <= 9999; year++ {
		for month := 1; month <= 12; month++ {
			last := lengths[month]
			if month == 2 && leap(year) {
				last = 29
			}
			noDate(t, date(year, month, 0))
			noDate(t, date(year, month, last+1))
			if _, e := civil.Number(date(year, month, last)); e != api.OK {
				t.Fatalf("P702: the last of %d-%d: %v", year, month, e)
			}
		}
	}
}

func TestP702LeapDays(t *testing.T) {
	for _, year := range []int{4, 400, 1600, 1972, 2000, 2024, 2400, 9996} {
		n, e := civil.Number(date(year, 2, 29))
		if e != api.OK {
			t.Fatalf("P702: 29 February %d: %v", year, e)
		}
		isDay(t, n, date(year, 2, 29))
		isDay(t, n-1, date(year, 2, 28))
		isDay(t, n+1, date(year, 3, 1))
		noDate(t, date(year, 2, 30))
	}
	for _, year := range []int{0, -4, -400, 1, 100, 1700, 1900, 1970, 2023, 2100, 9900, 9999, 10000} {
		noDate(t, date(year, 2, 29))
	}
}

// TestP703EveryDay goes through all days that there are.
func TestP703EveryDay(t *testing.T) {
	d := date(1, 1, 1)
	for day := firstDay; day <= lastDay; day++ {
		isDay(t, day, d)
		d = follow(d)
	}
	if d != date(10000, 1, 1) {
		t.Fatalf("P703: the last day is ahead of %v", d)
	}
}

// TestP703Library holds days against the library's calendar, which is proleptic Gregorian too.
func TestP703Library(t *testing.T) {
	for day := firstDay; day <= lastDay; day += 11 {
		year, month, of := time.Unix(int64(day)*86400, 0).UTC().Date()
		isDay(t, day, date(year, int(month), of))
	}
}

// TestP3Again: nothing is kept from call to call, whatever was asked in between.
func TestP3Again(t *testing.T) {
	for range 2 {
		isDay(t, 11016, date(2000, 2, 29))
		noDay(t, lastDay+1)
		noDate(t, date(2023, 2, 29))
		isDay(t, -1, date(1969, 12, 31))
	}
}

// FuzzDates looks for numbers that P701 to P703 do not hold for, and for such as are not borne (P1).
func FuzzDates(f *testing.F) {
	for _, n := range append(far, 0, firstDay, lastDay, firstDay-1, lastDay+1, 11016) {
		f.Add(n, 2000, 2, 29)
		f.Add(0, n, 2, 29)
		f.Add(0, 2023, n, 1)
		f.Add(0, 2023, 2, n)
	}
	f.Fuzz(func(t *testing.T, day, year, month, of int) {
		if day < firstDay || day > lastDay {
			noDay(t, day)
		} else {
			y, m, d := time.Unix(int64(day)*86400, 0).UTC().Date()
			isDay(t, day, date(y, int(m), d))
		}
		if civil.Leap(year) != leap(year) {
			t.Errorf("P701: Leap(%d)", year)
		}
		checkDate(t, date(year, month, of))
	})
}

// checkDate holds Number against the library, which takes what is out of bounds for another date.
func checkDate(t *testing.T, d api.Date) {
	t.Helper()
	if d.Year < 1 || d.Year > 9999 || d.Month < 1 || d.Month > 12 || d.Day < 1 || d.Day > 31 {
		noDate(t, d)
		return
	}
	at := time.Date(d.Year, time.Month(d.Month), d.Day, 0, 0, 0, 0, time.UTC)
	if at.Day() != d.Day {
		noDate(t, d)
		return
	}
	isDay(t, int(at.Unix()/86400), d)
}
