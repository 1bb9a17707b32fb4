package account_test

import (
	"math"
	"testing"

	"toll/account"
	"toll/api"
)

// TestP1305Change: what is left of the elder allowance expires, a share of the new one comes; packs, what is held and all else stay.
func TestP1305Change(t *testing.T) {
	l := &life{t, begun(t, byDays(30, 300, api.MHard), 10*day)}
	l.says(hold(1, 50, 100000), 10*day, ok(250, 0, 50))
	l.says(hold(2, 30, 10), 10*day, ok(220, 0, 30))
	l.says(pack(3, 9, 100000), 10*day, ok(229, 0, 2))
	l.says(hold(4, 8, 100000), 10*day, ok(221, 0, 8))
	l.says(commit(5, 4, 7), 10*day, ok(222, 0, 7))
	q := byMonths(5, 100, api.MOver)
	now := 20*day + 5
	want := clone(l.a)
	want.Plan, want.Next = q, 4
	want.Holds = want.Holds[:1] // hold 2 is due
	want.Lots = []api.Lot{
		{Id: 1, From: 10 * day, Until: 40 * day, Granted: 300, Consumed: 7, Held: 50, Expired: 243},
		{Id: 2, Kind: api.LPack, From: 10 * day, Until: 10*day + 100000, Granted: 9},
		{Id: 3, From: now, Until: 40 * day, Granted: 66}, // 20 of 30 days
	}
	l.a = isChanged(t, l.a, q, now, want)
	l.passes(show(), now, ok(75, 0, 0))
	l.passes(show(), now-1, ok(9, 0, 0)) // the new lot begins with the tick, not with its day
	l.says(release(6, 1), now, ok(125, 0, 50))
	l.says(hold(7, 130, 9), now, ok(0, 0, 125)) // by the new plan's mode
}

// TestP1305EveryDay: the share on each day of a term, at its first tick and its last one; ahead of the term and behind it there is none.
func TestP1305EveryDay(t *testing.T) {
	for _, days := range []int{1, 2, 28, 30, 31, 366} {
		for _, allowance := range []int{0, 1, 7, 100, api.MaxUnits - 1, api.MaxUnits} {
			a := begun(t, byDays(days, 40, api.MHard), 100*day+9)
			p := byMonths(3, allowance, api.MHard)
			for d := range days {
				for _, now := range []int{(100 + d) * day, (100+d)*day + 1439} {
					want := clone(a)
					want.Plan, want.Next = p, 3
					want.Lots[0].Expired = 40
					want.Lots = append(want.Lots, api.Lot{Id: 2, From: now, Until: (100 + days) * day, Granted: allowance * (days - d) / days})
					isChanged(t, a, p, now, want)
				}
			}
			for _, now := range []int{0, 99 * day, 100*day - 1, (100 + days) * day, (100+days)*day + 1, (101 + days) * day, api.LastTick} {
				isNotChanged(t, a, p, now, api.ErrOver)
			}
		}
	}
}

// TestP1305Edges: a term from day 0 on, at its first tick and its last one; one that is begun at the last tick of all.
func TestP1305Edges(t *testing.T) {
	a := begun(t, byDays(2, 40, api.MHard), 0)
	p := byDays(9, 10, api.MOver)
	for now, units := range map[int]int{0: 10, 1439: 10, 1440: 5, 2879: 5} {
		want, _ := changed(a, p, now)
		if want.Lots[1].Granted != units {
			t.Fatalf("P1305: %d units at %d", want.Lots[1].Granted, now)
		}
		isChanged(t, a, p, now, want)
	}
	isNotChanged(t, a, p, 2880, api.ErrOver)
	b := begun(t, byDays(366, 1, api.MHard), api.LastTick)
	want, _ := changed(b, p, api.LastTick)
	isChanged(t, b, p, api.LastTick, want)
	isNotChanged(t, b, p, api.LastTick-day, api.ErrOver)
}

// TestP1305Lots: only what is of the allowance and ends with the term expires.
func TestP1305Lots(t *testing.T) {
	a := rich()
	a.Lots = append(a.Lots, api.Lot{Id: 10, Kind: api.LAllow, From: 105 * day, Until: 130 * day, Granted: 70, Consumed: 1, Rolled: 2}, api.Lot{Id: 11, Kind: api.LPack, From: 100 * day, Until: 130 * day, Granted: 5})
	for i, until := range []int{130*day - 1, 130*day + 1, 131 * day} {
		a.Lots = append(a.Lots, api.Lot{Id: 20 + i, Kind: api.LAllow, From: 100 * day, Until: until, Granted: 30})
	}
	a.Next = 30
	now := 115*day + 700
	p := byDays(10, 91, api.MHard)
	want := clone(a)
	want.Plan, want.Next = p, 31
	want.Lots[0].Expired += 240
	want.Lots[4].Expired += 67
	want.Lots = append(want.Lots, api.Lot{Id: 30, Kind: api.LAllow, From: now, Until: 130 * day, Granted: 45}) // 15 of 30 days
	b := isChanged(t, a, p, now, want)
	if got := left(b, now); got != 29+37+17+5+30+30+30+45 {
		t.Fatalf("P1305: %d are left", got)
	}
}

// TestP1305Sweeps: holds that are due are released first, so that what they had expires too; of lots that are over as ever.
func TestP1305Sweeps(t *testing.T) {
	a := rich()
	for now, expired := range map[int][]int{
		115 * day: {245, 0, 0, 2}, 118 * day: {245, 0, 0, 2}, 120*day - 1: {245, 0, 0, 2}, 120 * day: {275, 0, 0, 2}, 121 * day: {280, 0, 4, 2}, 130*day - 1: {280, 0, 4, 2},
	} {
		want, _ := changed(a, byDays(3, 10, api.MHard), now)
		for i, n := range expired {
			if want.Lots[i].Expired != n {
				t.Fatalf("P1305: %+v at %d", want.Lots[i], now)
			}
		}
		isChanged(t, a, byDays(3, 10, api.MHard), now, want)
	}
}

// TestP1305Twice: in one term, also at one tick: each time the one ahead expires.
func TestP1305Twice(t *testing.T) {
	l := &life{t, begun(t, byDays(30, 300, api.MHard), 0)}
	p, q := byMonths(1, 90, api.MHard), byDays(7, 60, api.MOver)
	want, _ := changed(l.a, p, 10*day)
	l.a = isChanged(t, l.a, p, 10*day, want)
	l.passes(show(), 10*day, ok(60, 0, 0))
	l.says(hold(1, 20, 100000), 10*day, ok(40, 0, 20))
	want, _ = changed(l.a, q, 10*day)
	l.a = isChanged(t, l.a, q, 10*day, want)
	l.passes(show(), 10*day, ok(40, 0, 0))
	l.says(hold(2, 45, 100000), 10*day, ok(0, 0, 40))
	want, _ = changed(l.a, p, 20*day)
	l.a = isChanged(t, l.a, p, 20*day, want)
	l.passes(show(), 20*day, ok(30, 0, 0))
	l.says(commit(3, 1, 20), 20*day, ok(30, 0, 20))
	for i, want := range []api.Lot{
		{Id: 1, Until: 30 * day, Granted: 300, Expired: 300},
		{Id: 2, From: 10 * day, Until: 30 * day, Granted: 60, Consumed: 20, Expired: 40},
		{Id: 3, From: 10 * day, Until: 30 * day, Granted: 40, Held: 40},
		{Id: 4, From: 20 * day, Until: 30 * day, Granted: 30},
	} {
		if l.a.Lots[i] != want {
			t.Fatalf("P1305: %+v, not %+v", l.a.Lots[i], want)
		}
	}
}

// TestP1305Many: up to MaxLots, and one more.
func TestP1305Many(t *testing.T) {
	a := begun(t, byDays(30, 300, api.MHard), 0)
	p := byDays(5, 60, api.MHard)
	for i := 1; i < api.MaxLots; i++ {
		want, _ := changed(a, p, 100*i)
		a = isChanged(t, a, p, 100*i, want)
	}
	isNotChanged(t, a, p, 2000, api.ErrMany)
	for n := range 15 { // also where there are more of them, as behind a closing
		b := rich()
		b.Lots, b.Holds, b.Next = nil, nil, 100
		for i := range n {
			b.Lots = append(b.Lots, api.Lot{Id: i + 1, Kind: i % 3, Until: 200 * day, Granted: 1})
		}
		if want, e := changed(b, p, 115*day); e != api.OK {
			isNotChanged(t, b, p, 115*day, api.ErrMany)
		} else {
			isChanged(t, b, p, 115*day, want)
		}
	}
}

func TestP1305Plans(t *testing.T) {
	a := rich()
	for _, p := range spoilt() {
		isNotChanged(t, a, p, 115*day, api.ErrArg)
	}
	for _, p := range []api.Plan{byDays(1, 0, api.MHard), byDays(366, api.MaxUnits, api.MOver), byMonths(1, 5, api.MHard), byMonths(31, 5, api.MOver), a.Plan} {
		want, _ := changed(a, p, 115*day)
		isChanged(t, a, p, 115*day, want)
	}
}

// TestP1305TwoErrors: in the order in which they are named.
func TestP1305TwoErrors(t *testing.T) {
	full := rich()
	for i := range 8 {
		full.Lots = append(full.Lots, api.Lot{Id: 10 + i, Until: 9, Granted: 1})
	}
	full.Next = 20
	isChecked(t, "P1302", full, api.OK)
	bad, fine := spoilt()[2], byDays(3, 10, api.MHard)
	for _, now := range []int{99 * day, 130 * day} {
		isNotChanged(t, full, bad, now, api.ErrArg)
		isNotChanged(t, full, fine, now, api.ErrOver)
	}
	isNotChanged(t, full, bad, 115*day, api.ErrArg)
	isNotChanged(t, full, fine, 115*day, api.ErrMany)
	for _, now := range []int{math.MinInt, math.MaxInt} {
		if _, e := account.Change(full, fine, now); e != api.ErrOver {
			t.Fatalf("P1305: at %d: %v", now, e)
		}
	}
}
