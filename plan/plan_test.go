package plan_test

import (
	"math"
	"math/big"
	"strings"
	"testing"
	"time"

	"toll/api"
	"toll/plan"
)

const (
	lastDay = 2932896 // 9999-12-31
	letters = "abcdefghijklmnopqrstuvwxyz0123456789-"
)

// far are numbers that no field of a plan may have; some of them would do, were they cut to fewer bits.
var far = []int{-1 << 31, 1 << 31, 1<<31 + 1, -1 << 32, 1 << 32, 1<<32 + 1, 1<<32 + 31, 1<<32 + 366, -1 << 62, 1 << 62, 1<<62 + 1, math.MaxInt, math.MaxInt - 1, math.MaxInt - 366, math.MinInt, math.MinInt + 1, math.MinInt + 366}

// on is a date's day, by the library's calendar.
func on(year, month, day int) int {
	return int(time.Date(year, time.Month(month), day, 0, 0, 0, 0, time.UTC).Unix() / 86400)
}

func dayOfMonth(day int) int {
	return time.Unix(int64(day)*86400, 0).UTC().Day()
}

// isBound holds the words of chapter 8: the anchor's day, or the month's last one, if it has no such day.
func isBound(anchor, day int) bool {
	d := dayOfMonth(day)
	return d == anchor || d < anchor && dayOfMonth(day+1) == 1
}

// share works in numbers of any size.
func share(n, part, whole int) int {
	x := new(big.Int).Mul(big.NewInt(int64(n)), big.NewInt(int64(part)))
	return int(x.Div(x, big.NewInt(int64(whole))).Int64())
}

func monthly(anchor, allowance int) api.Plan {
	return api.Plan{Name: "basic", Version: 3, Allowance: allowance, Kind: api.TMonth, Anchor: anchor, Cap: 50, Mode: api.MHard, Burst: 10, Rate: 2}
}

func daily(days, allowance int) api.Plan {
	return api.Plan{Name: "trial-2", Version: 1, Allowance: allowance, Kind: api.TDays, Days: days, Cap: 0, Mode: api.MOver, Burst: 5, Rate: 0}
}

func isName(t *testing.T, s string, want bool) {
	t.Helper()
	if plan.Name(s) != want {
		t.Fatalf("P901: Name(%q) is %v", s, !want)
	}
	p := monthly(1, 300)
	p.Name = s
	isChecked(t, p, want)
}

func isChecked(t *testing.T, p api.Plan, fine bool) {
	t.Helper()
	want := api.ErrArg
	if fine {
		want = api.OK
	}
	if e := plan.Check(p); e != want {
		t.Fatalf("P901: Check(%+v): %v, not %v", p, e, want)
	}
	if fine {
		if _, _, e := plan.Grant(p, 0); e != api.OK {
			t.Fatalf("P902: Grant(%+v, 0): %v", p, e)
		}
		return
	}
	isRefused(t, p, 0)
}

// isRefused holds that nothing is answered beside the error (P4).
func isRefused(t *testing.T, p api.Plan, from int) {
	t.Helper()
	if to, n, e := plan.Grant(p, from); to != 0 || n != 0 || e != api.ErrArg {
		t.Fatalf("P902: Grant(%+v, %d): %d, %d, %v, not ErrArg", p, from, to, n, e)
	}
}

func isGranted(t *testing.T, p api.Plan, from, to, units int) {
	t.Helper()
	if gotTo, n, e := plan.Grant(p, from); gotTo != to || n != units || e != api.OK {
		t.Fatalf("P902: Grant(%+v, %d): %d, %d, %v, not %d, %d", p, from, gotTo, n, e, to, units)
	}
}

func TestP901NamesByLength(t *testing.T) {
	for n := range 300 {
		isName(t, strings.Repeat("a", n), n >= 1 && n <= 24)
		isName(t, strings.Repeat("-", n), n >= 1 && n <= 24)
	}
	for _, n := range []int{1 << 16, 1<<16 + 1, 1<<16 + 24} {
		isName(t, strings.Repeat("z", n), false)
	}
	isName(t, letters[:24], true)
	isName(t, letters[len(letters)-24:], true)
	isName(t, letters, false)
}

// TestP901EachByte: alone, and at each place of a name of each length.
func TestP901EachByte(t *testing.T) {
	for b := range 256 {
		one := string([]byte{byte(b)})
		fine := strings.Contains(letters, one)
		isName(t, one, fine)
		for n := 2; n <= 24; n++ {
			for i := range n {
				isName(t, strings.Repeat("b", i)+one+strings.Repeat("8", n-1-i), fine)
			}
		}
	}
}

func TestP901KnownNames(t *testing.T) {
	for _, s := range []string{"a", "z", "0", "9", "-", "--", "-a", "a-", "0-z", "pro-2026", "007"} {
		isName(t, s, true)
	}
	for _, s := range []string{"", " ", "a ", " a", "A", "Pro", "a_b", "a.b", "a/b", "a:b", "`", "{", "a\n", "\x00", "a\x00", "a,b", "a+b",
		"é", "š", "aš", "\u0430", "\uff41", "\u2010", "\u2212", "\u0661", "\U00010061", "\xe1", "a\xff", "\xc3"} {
		isName(t, s, false)
	}
}

// field is one that is a number from least to most, whatever the others are.
type field struct {
	name        string
	at          func(p *api.Plan) *int
	least, most int
}

var fields = []field{
	{"Version", func(p *api.Plan) *int { return &p.Version }, 1, 1000000},
	{"Allowance", func(p *api.Plan) *int { return &p.Allowance }, 0, 1000000000},
	{"Cap", func(p *api.Plan) *int { return &p.Cap }, 0, 1000000000},
	{"Mode", func(p *api.Plan) *int { return &p.Mode }, api.MHard, api.MOver},
	{"Burst", func(p *api.Plan) *int { return &p.Burst }, 1, 100000},
	{"Rate", func(p *api.Plan) *int { return &p.Rate }, 0, 1000},
}

// ends are plans with each of those fields at its least, and at its most.
func ends() (api.Plan, api.Plan) {
	least, most := daily(1, 0), monthly(31, 0)
	for _, f := range fields {
		*f.at(&least), *f.at(&most) = f.least, f.most
	}
	return least, most
}

func TestP901EachField(t *testing.T) {
	least, most := ends()
	for _, base := range []api.Plan{monthly(1, 300), daily(30, 300), least, most} {
		isChecked(t, base, true)
		for _, f := range fields {
			for _, n := range append(far, -1000000, -2, -1, 0, 1, 2, 3, 255, 256, 257, 1000, 100000, 65536, 1000000, 1000000000, 2000000000,
				f.least-1, f.least, f.least+1, (f.least+f.most)/2, f.most-1, f.most, f.most+1, f.most+2) {
				p := base
				*f.at(&p) = n
				isChecked(t, p, n >= f.least && n <= f.most)
			}
		}
	}
}

// TestP901NoFieldHangsOnAnother: a cap may be above the allowance, a rate above the burst, and the other way round.
func TestP901NoFieldHangsOnAnother(t *testing.T) {
	for _, f := range fields {
		for _, g := range fields {
			for _, p := range []api.Plan{monthly(15, 300), daily(366, 300)} {
				*f.at(&p) = f.most
				if f.name != g.name {
					*g.at(&p) = g.least
				}
				isChecked(t, p, true)
			}
		}
	}
}

// TestP901EachTerm: kinds, each with the anchors and the days that it asks, and those that the other one does.
func TestP901EachTerm(t *testing.T) {
	for kind := -2; kind <= 3; kind++ {
		for anchor := -1; anchor <= 33; anchor++ {
			for days := -1; days <= 368; days++ {
				p := monthly(anchor, 300)
				p.Kind, p.Days = kind, days
				isChecked(t, p, kind == api.TMonth && anchor >= 1 && anchor <= 31 && days == 0 ||
					kind == api.TDays && days >= 1 && days <= 366 && anchor == 0)
			}
		}
	}
}

func TestP901TermsFarOut(t *testing.T) {
	for _, p := range []api.Plan{monthly(1, 300), monthly(31, 300), daily(1, 300), daily(366, 300)} {
		for _, n := range append(far, -366, -31, -2, 60, 255, 256, 257, 287, 367, 622, 1000, 65536, 65537, 65902) {
			kind, anchor := p, p
			kind.Kind, anchor.Anchor = n, n
			isChecked(t, kind, false)
			isChecked(t, anchor, false)
		}
		for _, n := range append(far, -366, -31, -2, 367, 622, 1000, 65536, 65537, 65902) {
			days := p
			days.Days = n
			isChecked(t, days, false)
		}
	}
}

// faults each make a plan one that is refused, whatever it was.
var faults = []func(p *api.Plan){
	func(p *api.Plan) { p.Name = "" },
	func(p *api.Plan) { p.Name = strings.Repeat("a", 25) },
	func(p *api.Plan) { p.Name = "A" },
	func(p *api.Plan) { p.Version = 0 },
	func(p *api.Plan) { p.Version = 1000001 },
	func(p *api.Plan) { p.Allowance = -1 },
	func(p *api.Plan) { p.Allowance = 1000000001 },
	func(p *api.Plan) { p.Cap = -1 },
	func(p *api.Plan) { p.Cap = 1000000001 },
	func(p *api.Plan) { p.Kind = 2 },
	func(p *api.Plan) { p.Kind = -1 },
	func(p *api.Plan) { p.Anchor = 32 },
	func(p *api.Plan) { p.Anchor = -1 },
	func(p *api.Plan) { p.Days = 367 },
	func(p *api.Plan) { p.Days = -1 },
	func(p *api.Plan) { p.Anchor, p.Days = 0, 0 },
	func(p *api.Plan) { p.Anchor, p.Days = 1, 1 },
	func(p *api.Plan) { p.Mode = 2 },
	func(p *api.Plan) { p.Mode = -1 },
	func(p *api.Plan) { p.Burst = 0 },
	func(p *api.Plan) { p.Burst = 100001 },
	func(p *api.Plan) { p.Rate = -1 },
	func(p *api.Plan) { p.Rate = 1001 },
}

// TestP901SeveralFaults: one, two and three of them, also with a day that may not be.
func TestP901SeveralFaults(t *testing.T) {
	isChecked(t, api.Plan{}, false)
	for _, base := range []api.Plan{monthly(1, 300), daily(30, 300)} {
		for _, one := range faults {
			for _, two := range faults {
				for _, three := range faults {
					p := base
					one(&p)
					two(&p)
					three(&p)
					isChecked(t, p, false)
				}
			}
			p := base
			one(&p)
			for _, from := range append(far, -1, 1, 19458, lastDay, lastDay+1) {
				isRefused(t, p, from)
			}
		}
	}
}

func TestP902Example(t *testing.T) {
	isGranted(t, monthly(1, 300), on(2023, 4, 11), on(2023, 5, 1), 200)
}

// TestP902Months: on a bound, a day ahead of it, a day behind it; anchors that a month does not have.
func TestP902Months(t *testing.T) {
	for _, c := range []struct{ anchor, allowance, from, to, units int }{
		{1, 300, on(2023, 4, 1), on(2023, 5, 1), 300},
		{1, 300, on(2023, 4, 2), on(2023, 5, 1), 290},
		{1, 300, on(2023, 4, 30), on(2023, 5, 1), 10},
		{1, 300, on(1970, 1, 1), on(1970, 2, 1), 300},
		{1, 310, on(1970, 1, 2), on(1970, 2, 1), 300},
		{2, 310, on(1970, 1, 1), on(1970, 1, 2), 10}, // the bound ahead of day 0 is below 0
		{31, 310, on(1970, 1, 1), on(1970, 1, 31), 300},
		{15, 300, on(2023, 5, 20), on(2023, 6, 15), 251},
		{15, 31, on(2023, 12, 31), on(2024, 1, 15), 15},
		{15, 31, on(2024, 1, 1), on(2024, 1, 15), 14},
		{28, 31, on(2023, 2, 27), on(2023, 2, 28), 1},
		{29, 300, on(2023, 2, 28), on(2023, 3, 29), 300},
		{29, 290, on(2023, 3, 1), on(2023, 3, 29), 280},
		{29, 290, on(2024, 2, 29), on(2024, 3, 29), 290},
		{29, 290, on(2024, 3, 1), on(2024, 3, 29), 280},
		{29, 310, on(2024, 2, 28), on(2024, 2, 29), 10},
		{29, 300, on(2100, 2, 27), on(2100, 2, 28), 10},
		{29, 310, on(2000, 2, 28), on(2000, 2, 29), 10},
		{30, 290, on(2023, 2, 27), on(2023, 2, 28), 10},
		{30, 300, on(2024, 2, 28), on(2024, 2, 29), 10},
		{30, 300, on(2024, 2, 29), on(2024, 3, 30), 300},
		{30, 300, on(2024, 3, 1), on(2024, 3, 30), 290},
		{31, 300, on(2023, 1, 31), on(2023, 2, 28), 300},
		{31, 300, on(2023, 2, 1), on(2023, 2, 28), 289},
		{31, 280, on(2023, 2, 27), on(2023, 2, 28), 10},
		{31, 310, on(2023, 2, 28), on(2023, 3, 31), 310},
		{31, 310, on(2023, 3, 1), on(2023, 3, 31), 300},
		{31, 290, on(2024, 2, 1), on(2024, 2, 29), 280},
		{31, 310, on(2024, 3, 1), on(2024, 3, 31), 300},
		{31, 300, on(2023, 4, 29), on(2023, 4, 30), 10},
		{31, 310, on(2023, 12, 31), on(2024, 1, 31), 310},
	} {
		isGranted(t, monthly(c.anchor, c.allowance), c.from, c.to, c.units)
	}
}

// TestP902RoundsDown: shares that are not whole, and the least and the greatest allowance.
func TestP902RoundsDown(t *testing.T) {
	for _, c := range []struct{ allowance, from, units int }{ // of April's 30 days
		{0, on(2023, 4, 1), 0}, {0, on(2023, 4, 2), 0}, {0, on(2023, 4, 30), 0},
		{1, on(2023, 4, 1), 1}, {1, on(2023, 4, 2), 0}, {1, on(2023, 4, 30), 0},
		{29, on(2023, 4, 30), 0}, {30, on(2023, 4, 30), 1}, {31, on(2023, 4, 30), 1}, {59, on(2023, 4, 30), 1}, {60, on(2023, 4, 30), 2},
		{2, on(2023, 4, 16), 1}, {3, on(2023, 4, 16), 1}, {2, on(2023, 4, 17), 0}, {100, on(2023, 4, 2), 96}, {100, on(2023, 4, 21), 33}, {100, on(2023, 4, 11), 66},
		{api.MaxUnits, on(2023, 4, 1), api.MaxUnits}, {api.MaxUnits, on(2023, 4, 2), 966666666}, {api.MaxUnits, on(2023, 4, 11), 666666666}, {api.MaxUnits, on(2023, 4, 30), 33333333},
		{api.MaxUnits - 1, on(2023, 4, 16), 499999999}, {api.MaxUnits - 1, on(2023, 4, 1), api.MaxUnits - 1},
	} {
		isGranted(t, monthly(1, c.allowance), c.from, on(2023, 5, 1), c.units)
	}
}

func TestP902ByDays(t *testing.T) {
	for _, from := range []int{0, 1, 7, 19458, on(2024, 2, 28), on(2023, 12, 31), api.LastTick / api.Day, lastDay - 366} {
		for days := 1; days <= 366; days++ {
			for _, n := range []int{0, 1, 300, api.MaxUnits - 1, api.MaxUnits} {
				isGranted(t, daily(days, n), from, from+days, n)
			}
		}
	}
}

func TestP902DaysBelowZero(t *testing.T) {
	for _, from := range []int{-1, -2, -31, -365, -719162, -719163, math.MinInt, math.MinInt + 1, -1 << 31, -1 << 32, 1 - 1<<32, -1 << 62} {
		for anchor := 1; anchor <= 31; anchor++ {
			isRefused(t, monthly(anchor, 300), from)
		}
		for days := 1; days <= 366; days++ {
			isRefused(t, daily(days, 300), from)
		}
	}
}

// TestP902TheLastDays: term's error, where the end has no date, or the day itself.
func TestP902TheLastDays(t *testing.T) {
	for anchor := 1; anchor <= 31; anchor++ {
		last := on(9999, 12, anchor)
		isGranted(t, monthly(anchor, api.MaxUnits), last-1, last, share(api.MaxUnits, 1, last-on(9999, 11, min(anchor, 30))))
		for from := last; from <= lastDay+400; from++ {
			isRefused(t, monthly(anchor, 300), from)
		}
	}
	for days := 1; days <= 366; days++ {
		isGranted(t, daily(days, 300), lastDay-days, lastDay, 300)
		for from := lastDay - days + 1; from <= lastDay+1; from++ {
			isRefused(t, daily(days, 300), from)
		}
	}
	for _, from := range []int{lastDay + 1, lastDay + 366, 1 << 31, 1 << 32, 1<<32 + 1, 1 << 62, math.MaxInt - 366, math.MaxInt - 1, math.MaxInt} {
		isRefused(t, monthly(1, 300), from)
		isRefused(t, monthly(31, 300), from)
		isRefused(t, daily(1, 300), from)
		isRefused(t, daily(366, 300), from)
	}
}

// TestP902WhatCountsNot: units and end hang on the terms and the allowance alone.
func TestP902WhatCountsNot(t *testing.T) {
	least, most := ends()
	for _, p := range []api.Plan{least, most} {
		p.Kind, p.Anchor, p.Days, p.Allowance = api.TMonth, 1, 0, 300
		isGranted(t, p, on(2023, 4, 11), on(2023, 5, 1), 200)
		p.Kind, p.Anchor, p.Days = api.TDays, 0, 30
		isGranted(t, p, 7, 37, 300)
	}
}

// bounds are those of an anchor from a day on until another one, found by going through the days one by one.
func bounds(anchor, day, until int) []int {
	var all []int
	for ; day <= until; day++ {
		if isBound(anchor, day) {
			all = append(all, day)
		}
	}
	return all
}

// runs are days, from one to another: leap years of each kind and others, and the last ones.
var runs = [][2]int{
	{on(1969, 11, 1), on(1977, 1, 1)}, {on(1996, 1, 1), on(2006, 1, 1)}, {on(2022, 1, 1), on(2030, 1, 1)},
	{on(2096, 1, 1), on(2105, 1, 1)}, {on(9994, 1, 1), lastDay},
}

// TestP903EachDay: the whole allowance at each bound, and no more, but the days' share, behind it till the next one.
func TestP903EachDay(t *testing.T) {
	for _, run := range runs {
		for anchor := 1; anchor <= 31; anchor++ {
			all := bounds(anchor, run[0], run[1])
			for i, last := range all[:len(all)-1] {
				next := all[i+1]
				for _, n := range []int{0, 1, 300, 999999937, api.MaxUnits} {
					p := monthly(anchor, n)
					if last >= 0 {
						isGranted(t, p, last, next, n)
					}
					for from := max(last+1, 0); from < next; from++ {
						isGranted(t, p, from, next, share(n, next-from, next-last))
					}
				}
			}
		}
	}
}

// TestP903TermByTerm goes from each end to the next one, as closing does, till there is none: behind the first every term is whole.
func TestP903TermByTerm(t *testing.T) {
	for _, anchor := range []int{1, 15, 28, 29, 30, 31} {
		p := monthly(anchor, 777)
		from, units, e := plan.Grant(p, 10)
		if e != api.OK || units > p.Allowance {
			t.Fatalf("P903: anchor %d: %d, %v", anchor, units, e)
		}
		for from < on(9999, 12, anchor) {
			if from, units, e = plan.Grant(p, from); units != p.Allowance || e != api.OK {
				t.Fatalf("P903: anchor %d: %d units till %d, %v", anchor, units, from, e)
			}
		}
		isRefused(t, p, from)
	}
}

// TestP3Again: nothing is kept from call to call, whatever was asked in between.
func TestP3Again(t *testing.T) {
	for range 2 {
		isName(t, "a-9", true)
		isName(t, "", false)
		isChecked(t, monthly(31, 300), true)
		isChecked(t, daily(0, 300), false)
		isGranted(t, monthly(1, 300), on(2023, 4, 11), on(2023, 5, 1), 200)
		isRefused(t, monthly(1, 300), -1)
		isGranted(t, daily(30, 300), 7, 37, 300)
		isRefused(t, daily(30, 300), lastDay)
	}
}

// mayBe reads P901 plainly.
func mayBe(p api.Plan) bool {
	for _, f := range fields {
		if n := *f.at(&p); n < f.least || n > f.most {
			return false
		}
	}
	if p.Name == "" || len(p.Name) > 24 || strings.Trim(p.Name, letters) != "" {
		return false
	}
	if p.Kind == api.TMonth {
		return p.Anchor >= 1 && p.Anchor <= 31 && p.Days == 0
	}
	return p.Kind == api.TDays && p.Days >= 1 && p.Days <= 366 && p.Anchor == 0
}

// granted reads P902 plainly, of a plan that may be, by going through days; false, if there is no such term.
func granted(p api.Plan, from int) (int, int, bool) {
	if from < 0 || from > lastDay {
		return 0, 0, false
	}
	if p.Kind == api.TDays {
		return from + p.Days, p.Allowance, from+p.Days <= lastDay
	}
	last, next := from, from+1
	for !isBound(p.Anchor, last) {
		last--
	}
	for !isBound(p.Anchor, next) {
		next++
	}
	return next, share(p.Allowance, next-from, next-last), next <= lastDay
}

// FuzzPlans looks for plans and days that P901 to P903 do not hold for, and for such as are not borne (P1).
func FuzzPlans(f *testing.F) {
	for _, n := range append(far, -1, 0, 1, 2, 31, 32, 366, 367, 1000, 19458, lastDay-30, lastDay, lastDay+1) {
		f.Add("basic", 1, 300, api.TMonth, 31, 0, 0, api.MHard, 1, 0, n)
		f.Add("a-9", 1000000, api.MaxUnits, api.TDays, 0, 30, 50, api.MOver, 100000, 1000, n)
		f.Add("", n, n, n, n, n, n, n, n, n, 0)
		f.Add("é", 1, n, api.TMonth, 1, 0, n, api.MHard, 1, 0, 19458)
	}
	f.Fuzz(func(t *testing.T, name string, version, allowance, kind, anchor, days, most, mode, burst, rate, from int) {
		p := api.Plan{Name: name, Version: version, Allowance: allowance, Kind: kind, Anchor: anchor, Days: days, Cap: most, Mode: mode, Burst: burst, Rate: rate}
		if got, want := plan.Name(name), len(name) >= 1 && len(name) <= 24 && strings.Trim(name, letters) == ""; got != want {
			t.Errorf("P901: Name(%q): %v", name, got)
		}
		fine := mayBe(p)
		if e := plan.Check(p); (e == api.OK) != fine || !fine && e != api.ErrArg {
			t.Errorf("P901: Check(%+v): %v", p, e)
		}
		if !fine {
			isRefused(t, p, from)
			return
		}
		to, units, is := granted(p, from)
		if !is {
			isRefused(t, p, from)
			return
		}
		isGranted(t, p, from, to, units)
	})
}
