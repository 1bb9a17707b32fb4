package account_test

import (
	"math"
	"strings"
	"testing"

	"toll/api"
	"toll/plan"
)

// fresh reads P1301 plainly: the account of a term of days from to to, with so many units.
func fresh(p api.Plan, from, to, units int) api.Account {
	return api.Account{
		Name: "a", Key: "k", Plan: p, Term: 1, From: from, To: to,
		Lots: []api.Lot{{Id: 1, Kind: api.LAllow, From: from * day, Until: to * day, Granted: units}},
		Next: 2,
	}
}

// TestP1301ByDays: at the first tick of a day, within it, at its last one: the lot begins with the day.
func TestP1301ByDays(t *testing.T) {
	for _, from := range []int{0, 1, 3, 100, 2777776} {
		for _, days := range []int{1, 30, 366} {
			for _, units := range []int{0, 1, 100, api.MaxUnits} {
				for _, mode := range []int{api.MHard, api.MOver} {
					p := byDays(days, units, mode)
					for _, within := range []int{0, 1, 7, 720, 1439} {
						isNew(t, "a", "k", p, from*day+within, fresh(p, from, from+days, units))
					}
				}
			}
		}
	}
}

func TestP1301ByMonths(t *testing.T) {
	p := byMonths(1, 300, api.MOver)
	isNew(t, "a", "k", p, 19458*day+9, fresh(p, 19458, 19478, 200)) // 2023-04-11 to 2023-05-01
	isNew(t, "a", "k", p, 19448*day, fresh(p, 19448, 19478, 300))   // 2023-04-01
	isNew(t, "a", "k", p, 0, fresh(p, 0, 31, 300))
	p.Anchor = 31
	isNew(t, "a", "k", p, 0, fresh(p, 0, 30, 290))                     // the bound ahead of it is 1969-12-31
	isNew(t, "a", "k", p, 19388*day, fresh(p, 19388, 19416, 300))      // 2023-01-31 to 2023-02-28
	isNew(t, "a", "k", p, 19416*day-1, fresh(p, 19415, 19416, 10))     // the last day of that term: 1 of 28
	isNew(t, "a", "k", p, 19416*day, fresh(p, 19416, 19447, 300))      // to 2023-03-31
	isNew(t, "a", "k", p, 19446*day+5, fresh(p, 19446, 19447, 300/31)) // rounded down
}

// TestP1301EveryDay: there is a term of each tick; the first days and the last ones, by each anchor.
func TestP1301EveryDay(t *testing.T) {
	for anchor := 1; anchor <= 31; anchor++ {
		p := byMonths(anchor, 1000, api.MHard)
		for i := range 70 {
			for _, now := range []int{i * day, i*day + 1439, api.LastTick - i*day} {
				to, units, e := plan.Grant(p, now/day)
				if e != api.OK {
					t.Fatalf("P902: %v", e)
				}
				isNew(t, "a", "k", p, now, fresh(p, now/day, to, units))
			}
		}
	}
}

func TestP1301Ticks(t *testing.T) {
	p := byDays(30, 100, api.MHard)
	isNew(t, "a", "k", p, api.LastTick, fresh(p, 2777777, 2777807, 100))
	for _, now := range []int{-1, -day, -1 << 32, api.LastTick + 1, api.LastTick + day, 1 << 40, 1 << 62, math.MinInt, math.MaxInt} {
		isNotNew(t, "a", "k", p, now, api.ErrArg)
	}
}

func TestP1301Names(t *testing.T) {
	p := byDays(30, 100, api.MHard)
	for _, s := range []string{"a", "-", "0", "z", "9", "a-0", strings.Repeat("x", 24)} {
		want := fresh(p, 3, 33, 100)
		want.Name = s
		isNew(t, s, "k", p, 3*day, want)
		want = fresh(p, 3, 33, 100)
		want.Key = s
		isNew(t, "a", s, p, 3*day, want)
		want.Name = s
		isNew(t, s, s, p, 3*day, want)
	}
	for _, s := range []string{"", "A", "a b", "a_b", "a.", "`", "{", "/", ":", "\x00", "é", "a\n", strings.Repeat("x", 25), strings.Repeat("x", 1000)} {
		isNotNew(t, s, "k", p, 3*day, api.ErrArg)
		isNotNew(t, "a", s, p, 3*day, api.ErrArg)
		isNotNew(t, s, s, p, -1, api.ErrArg)
	}
}

// spoilt are plans that may not be, each for another reason.
func spoilt() []api.Plan {
	var all []api.Plan
	for _, f := range []func(p *api.Plan){
		func(p *api.Plan) { p.Name = "" },
		func(p *api.Plan) { p.Name = "Basic" },
		func(p *api.Plan) { p.Version = 0 },
		func(p *api.Plan) { p.Version = 1000001 },
		func(p *api.Plan) { p.Allowance = -1 },
		func(p *api.Plan) { p.Allowance = api.MaxUnits + 1 },
		func(p *api.Plan) { p.Kind = 2 },
		func(p *api.Plan) { p.Kind = api.TMonth },
		func(p *api.Plan) { p.Anchor = 1 },
		func(p *api.Plan) { p.Days = 0 },
		func(p *api.Plan) { p.Days = api.MaxDays + 1 },
		func(p *api.Plan) { p.Cap = -1 },
		func(p *api.Plan) { p.Cap = api.MaxUnits + 1 },
		func(p *api.Plan) { p.Mode = 2 },
		func(p *api.Plan) { p.Mode = -1 },
		func(p *api.Plan) { p.Burst = 0 },
		func(p *api.Plan) { p.Burst = api.MaxBurst + 1 },
		func(p *api.Plan) { p.Rate = -1 },
		func(p *api.Plan) { p.Rate = api.MaxRate + 1 },
	} {
		p := byDays(30, 100, api.MHard)
		f(&p)
		all = append(all, p)
	}
	return append(all, api.Plan{}, byMonths(0, 1, 0), byMonths(32, 1, 0))
}

func TestP1301Plans(t *testing.T) {
	for _, p := range spoilt() {
		isNotNew(t, "a", "k", p, 0, api.ErrArg)
		isNotNew(t, "", "k", p, 0, api.ErrArg)
		isNotNew(t, "a", "k", p, -1, api.ErrArg)
	}
}
