package closing_test

import (
	"math"
	"slices"
	"testing"

	"toll/account"
	"toll/api"
	"toll/civil"
	"toll/closing"
	"toll/lots"
	"toll/plan"
	"toll/rec"
)

// TestP1401Due: by the day To alone, whatever else there is.
func TestP1401Due(t *testing.T) {
	for _, to := range []int{1, 2, 30, 130, 19388, 2777776, 2777777, 2777778, 3000000, 4000000} {
		a := rich()
		a.From, a.To = to-1, to
		first := to * day
		for _, now := range []int{0, 1, first - day, first - 2, first - 1, first, first + 1, first + day - 1, first + day, first + 400*day, api.LastTick - 1, api.LastTick} {
			if want := now >= first; closing.Due(a, now) != want {
				t.Fatalf("P1401: Due at %d, where To begins at %d: %t", now, first, !want)
			}
		}
	}
}

// TestP1401Ticks: each tick from the last two days of a term to the second one behind it.
func TestP1401Ticks(t *testing.T) {
	a := begun(t, byDays(3, 5, 5), 4*day+7)
	for now := 5 * day; now < 9*day; now++ {
		if want := now >= 7*day; closing.Due(a, now) != want {
			t.Fatalf("P1401: Due at %d: %t", now, !want)
		}
	}
}

// TestP1402Busy: the error, and nothing else, of all sorts of accounts.
func TestP1402Busy(t *testing.T) {
	for _, a := range []api.Account{rich(), begun(t, byDays(1, 10, 4), 0), begun(t, byMonths(31, 10, 4), 19400*day+5), begun(t, inOver(byDays(366, 0, 0)), 77*day)} {
		isAllowed(t, "P1302", a)
		for _, now := range []int{0, a.From * day, a.To*day - day, a.To*day - 1} {
			isBusy(t, a, now)
		}
		isClosed(t, a, a.To*day)
	}
}

// TestP1402BusyForEver: a term that ends behind the last tick, and one of whose end there is no term (P6).
func TestP1402BusyForEver(t *testing.T) {
	for _, to := range []int{2777778, 2800000, lastDay, lastDay + 1, 3000000, 4000000} {
		a := begun(t, byDays(5, 10, 4), 0)
		a.To = to
		isAllowed(t, "P1302", a)
		isBusy(t, a, api.LastTick)
		isBusy(t, a, 0)
	}
	b := rich()
	b.Plan.Burst = 0
	isBusy(t, b, 130*day-1)
}

// TestP1402Grant: plan.Grant's error, where the end of the next term has no date. (Such a day lies behind the last tick; at a tick an account that Check allows has no such error.)
func TestP1402Grant(t *testing.T) {
	for _, p := range []api.Plan{byDays(1, 10, 4), byDays(366, 10, 4), byMonths(1, 10, 4), byMonths(15, 10, 4), byMonths(31, 10, 4)} {
		for to := lastDay - 400; to < lastDay+5; to++ {
			a := rich()
			a.Plan, a.To = p, to
			isAllowed(t, "P1302", a)
			if _, _, e := plan.Grant(p, to); e != api.OK {
				isRefused(t, a, to*day, e)
				isRefused(t, a, to*day+9, e)
				continue
			}
			isClosed(t, a, to*day)
		}
		a := rich()
		a.Plan, a.To = p, 4000000
		isRefused(t, a, 4000000*day, api.ErrArg)
	}
	for _, f := range []func(p *api.Plan){
		func(p *api.Plan) { p.Name = "" },
		func(p *api.Plan) { p.Burst = 0 },
		func(p *api.Plan) { p.Cap = api.MaxUnits + 1 },
		func(p *api.Plan) { p.Days = 0 },
		func(p *api.Plan) { p.Kind = 2 },
		func(p *api.Plan) { p.Allowance = -1 },
	} {
		isRefused(t, spoiled(func(a *api.Account) { f(&a.Plan) }), 130*day, api.ErrArg)
	}
}

// TestP1402LastTick: at the last ticks there is a next term still, by each anchor and of the longest; it is due at no tick.
func TestP1402LastTick(t *testing.T) {
	plans := []api.Plan{byDays(1, 10, 4), byDays(366, 10, 4)}
	for anchor := 1; anchor <= 31; anchor++ {
		plans = append(plans, byMonths(anchor, 10, 4))
	}
	for _, p := range plans {
		for to := 2777700; to <= 2777777; to++ {
			a := rich()
			a.Plan, a.From, a.To = p, to-3, to
			b, _ := isClosed(t, a, api.LastTick)
			if b.To > 2777777 {
				isBusy(t, b, api.LastTick)
			}
		}
	}
}

func TestP1402Example(t *testing.T) {
	a := begun(t, byDays(30, 10, 4), 0)
	a = does(t, a, 7, hold(1, 3, 9), commit(2, 1, 3))
	want := clone(a)
	want.Term, want.From, want.To, want.Next = 2, 30, 60, 4
	want.Lots = []api.Lot{
		{Id: 2, Kind: api.LAllow, From: 30 * day, Until: 60 * day, Granted: 10},
		{Id: 3, Kind: api.LRoll, From: 30 * day, Until: 60 * day, Granted: 4},
	}
	comesTo(t, a, want, api.Statement{Name: "a", Term: 1, From: 0, To: 30, Granted: 10, Consumed: 3, Expired: 3, Rolled: 4})
	if n := lots.Left(want.Lots, 30*day); n != 14 {
		t.Fatalf("P1402: %d are left", n)
	}
}

func TestP1402Rich(t *testing.T) {
	want, s := richClosed()
	comesTo(t, rich(), want, s)
}

// TestP1402None: an account without lots, holds and window; an allowance of 0 has its lot too.
func TestP1402None(t *testing.T) {
	a := rich()
	a.Lots, a.Holds, a.Window, a.Next = nil, nil, nil, 1
	a.Plan.Allowance = 0
	want := clone(a)
	want.Term, want.From, want.To, want.Next, want.Over = 8, 130, 158, 2, 0
	want.Lots = []api.Lot{{Id: 1, Kind: api.LAllow, From: 130 * day, Until: 158 * day}}
	comesTo(t, a, want, api.Statement{Name: "tenant-1", Term: 7, From: 100, To: 130, Over: 17})
}

// number is a date's day.
func number(t *testing.T, year, month, d int) int {
	t.Helper()
	n, e := civil.Number(api.Date{Year: year, Month: month, Day: d})
	if e != api.OK {
		t.Fatalf("P702: %v", e)
	}
	return n
}

// TestP1402Months: a first term that has a share, then whole ones, from bound to bound.
func TestP1402Months(t *testing.T) {
	a := begun(t, byMonths(31, 310, 0), number(t, 2023, 1, 20)*day+99)
	if a.Lots[0].Granted != 110 {
		t.Fatalf("P902: %+v", a.Lots)
	}
	bounds := []int{number(t, 2023, 1, 31), number(t, 2023, 2, 28), number(t, 2023, 3, 31), number(t, 2023, 4, 30), number(t, 2023, 5, 31)}
	from, units := number(t, 2023, 1, 20), 110
	for i, to := range bounds[:4] {
		want := clone(a)
		want.Term, want.From, want.To, want.Next = i+2, to, bounds[i+1], i+3
		want.Lots = []api.Lot{{Id: i + 2, Kind: api.LAllow, From: to * day, Until: bounds[i+1] * day, Granted: 310}}
		comesTo(t, a, want, api.Statement{Name: "a", Term: i + 1, From: from, To: to, Granted: units, Expired: units})
		a, from, units = want, to, 310
	}
}

// TestP1402Shares: by a plan of months that came within a term of days the next term begins behind a bound, and has a share.
func TestP1402Shares(t *testing.T) {
	a := begun(t, byDays(30, 100, 100), 10*day)
	a, e := account.Change(a, byMonths(5, 280, 7), 20*day) // 20 of 30 days: 186
	if e != api.OK {
		t.Fatalf("P1305: %v", e)
	}
	want := clone(a)
	want.Term, want.From, want.To, want.Next = 2, 40, 63, 5 // 1970-02-10 to 1970-03-05
	want.Lots = []api.Lot{
		{Id: 3, Kind: api.LAllow, From: 40 * day, Until: 63 * day, Granted: 230}, // 23 of 28 days
		{Id: 4, Kind: api.LRoll, From: 40 * day, Until: 63 * day, Granted: 7},
	}
	comesTo(t, a, want, api.Statement{Name: "a", Term: 1, From: 10, To: 40, Granted: 286, Expired: 279, Rolled: 7})
	b := clone(want)
	b.Term, b.From, b.To, b.Next = 3, 63, 94, 7
	b.Lots = []api.Lot{
		{Id: 5, Kind: api.LAllow, From: 63 * day, Until: 94 * day, Granted: 280},
		{Id: 6, Kind: api.LRoll, From: 63 * day, Until: 94 * day, Granted: 7},
	}
	comesTo(t, want, b, api.Statement{Name: "a", Term: 2, From: 40, To: 63, Granted: 237, Expired: 230, Rolled: 7})
}

// TestP1402HeldIsRolled: what is held of the allowance when the term ends remains, though its lot is over, and is rolled.
func TestP1402HeldIsRolled(t *testing.T) {
	for most, rolled := range map[int]int{0: 0, 3: 3, 9: 9, 10: 10, 11: 10, api.MaxUnits: 10} {
		a := begun(t, byDays(2, 10, most), 0)
		a = does(t, a, 5, hold(1, 10, 100000)) // open still, whenever it is closed
		want := clone(a)
		want.Term, want.From, want.To, want.Next, want.Holds = 2, 2, 4, 3, nil
		want.Lots = []api.Lot{{Id: 2, Kind: api.LAllow, From: 2 * day, Until: 4 * day, Granted: 10}}
		if rolled > 0 {
			want.Lots = append(want.Lots, api.Lot{Id: 3, Kind: api.LRoll, From: 2 * day, Until: 4 * day, Granted: rolled})
			want.Next = 4
		}
		comesTo(t, a, want, api.Statement{Name: "a", Term: 1, From: 0, To: 2, Granted: 10, Expired: 10 - rolled, Rolled: rolled})
	}
}

// TestP1402HeldIsBack: what is held of a pack that stays remains in it, also where the pack is over when it is closed at last; of one that ended within the term it expires.
func TestP1402HeldIsBack(t *testing.T) {
	a := begun(t, inOver(byDays(2, 0, 50)), 0)
	now := 2*day - 80
	a = does(t, a, now, pack(1, 6, 50), pack(2, 8, 80), pack(3, 5, 81), pack(4, 7, 1000))
	a = does(t, a, now, hold(5, 6, 5), hold(6, 8, 60), hold(7, 12, 500), hold(8, 40, 100000))
	if !slices.Equal(a.Holds[2].Parts, []api.Part{{Lot: 4, N: 5}, {Lot: 5, N: 7}}) || a.Holds[3].Over != 40 {
		t.Fatalf("P1304: %+v", a.Holds)
	}
	want := clone(a)
	want.Term, want.From, want.To, want.Next, want.Holds = 2, 2, 4, 7, nil
	want.Lots = []api.Lot{
		{Id: 4, Kind: api.LPack, From: now, Until: 2*day + 1, Granted: 5},
		{Id: 5, Kind: api.LPack, From: now, Until: 2*day + 920, Granted: 7},
		{Id: 6, Kind: api.LAllow, From: 2 * day, Until: 4 * day},
	}
	comesTo(t, a, want, api.Statement{Name: "a", Term: 1, From: 0, To: 2, Granted: 14, Expired: 14})
}

// TestP1402HoldsOver: what a hold has over is nobody's any more; what was counted as over stands in the statement, and the next term begins with none.
func TestP1402HoldsOver(t *testing.T) {
	a := begun(t, inOver(byDays(1, 10, 0)), 0)
	a = does(t, a, 5, hold(1, 25, 100), commit(2, 1, 18), hold(3, 30, 9), hold(4, 7, 100000))
	if a.Over != 8 || len(a.Holds) != 2 {
		t.Fatalf("P1304: %+v", a)
	}
	want := clone(a)
	want.Term, want.From, want.To, want.Next, want.Over, want.Holds = 2, 1, 2, 3, 0, nil
	want.Lots = []api.Lot{{Id: 2, Kind: api.LAllow, From: day, Until: 2 * day, Granted: 10}}
	comesTo(t, a, want, api.Statement{Name: "a", Term: 1, From: 0, To: 1, Granted: 10, Consumed: 10, Over: 8})
	for _, over := range []int{0, 1, 1 << 53} {
		a.Over = over
		comesTo(t, a, want, api.Statement{Name: "a", Term: 1, From: 0, To: 1, Granted: 10, Consumed: 10, Over: over})
	}
}

// TestP1402ManyHolds: none to MaxHolds of them, due and not, each of a lot that ends and of one that stays.
func TestP1402ManyHolds(t *testing.T) {
	for n := range api.MaxHolds + 1 {
		a := rich()
		a.Lots = []api.Lot{
			{Id: 1, Kind: api.LAllow, From: 100 * day, Until: 130 * day, Granted: 100, Consumed: 4, Held: 2 * n},
			{Id: 2, Kind: api.LPack, From: 120 * day, Until: 190 * day, Granted: 50, Consumed: 1, Held: n},
		}
		a.Holds = nil
		for i := range n {
			a.Holds = append(a.Holds, api.Hold{Id: 10 * (i + 1), Parts: []api.Part{{Lot: 2, N: 1}, {Lot: 1, N: 2}}, Over: i, Until: (122 + 2*i) * day})
		}
		want := clone(a)
		want.Term, want.From, want.To, want.Next, want.Over, want.Holds = 8, 130, 158, 14, 0, nil
		want.Lots = []api.Lot{
			{Id: 2, Kind: api.LPack, From: 120 * day, Until: 190 * day, Granted: 50, Consumed: 1},
			{Id: 12, Kind: api.LAllow, From: 130 * day, Until: 158 * day, Granted: 301},
			{Id: 13, Kind: api.LRoll, From: 130 * day, Until: 158 * day, Granted: 96},
		}
		comesTo(t, a, want, api.Statement{Name: "tenant-1", Term: 7, From: 100, To: 130, Granted: 100, Consumed: 4, Rolled: 96, Over: 17})
	}
}

// TestP1402Ends: lots of each kind that end ahead of To, at its first tick, one tick behind it; of the allowance alone something is rolled.
func TestP1402Ends(t *testing.T) {
	for until, ends := range map[int]bool{1: true, 100 * day: true, 129*day + 5: true, 130*day - 1: true, 130 * day: true, 130*day + 1: false, 131 * day: false, 158 * day: false, mostID: false} {
		for _, kind := range []int{api.LAllow, api.LRoll, api.LPack} {
			x := api.Lot{Id: 5, Kind: kind, From: 0, Until: until, Granted: 50, Consumed: 3, Expired: 7}
			a := rich()
			a.Lots, a.Holds = []api.Lot{x}, nil
			want := clone(a)
			want.Term, want.From, want.To, want.Next, want.Over = 8, 130, 158, 13, 0
			s := api.Statement{Name: "tenant-1", Term: 7, From: 100, To: 130, Over: 17}
			allowance := api.Lot{Id: 12, Kind: api.LAllow, From: 130 * day, Until: 158 * day, Granted: 301}
			switch {
			case !ends:
				want.Lots = []api.Lot{x, allowance}
			case kind == api.LAllow:
				want.Lots = []api.Lot{allowance, {Id: 13, Kind: api.LRoll, From: 130 * day, Until: 158 * day, Granted: 40}}
				want.Next = 14
				s.Granted, s.Consumed, s.Expired, s.Rolled = 50, 3, 7, 40
			default:
				want.Lots = []api.Lot{allowance}
				s.Granted, s.Consumed, s.Expired = 50, 3, 47
			}
			comesTo(t, a, want, s)
		}
	}
}

// TestP1402Caps: of several lots of the allowance, among others, up to each cap.
func TestP1402Caps(t *testing.T) {
	for most := range 30 {
		a := rich()
		a.Plan.Cap = most
		a.Holds = []api.Hold{{Id: 3, Parts: []api.Part{{Lot: 5, N: 2}}, Until: 140 * day}}
		a.Lots = []api.Lot{
			{Id: 1, Kind: api.LAllow, From: 100 * day, Until: 120 * day, Granted: 9, Consumed: 4},  // 5
			{Id: 2, Kind: api.LRoll, From: 100 * day, Until: 130 * day, Granted: 8, Consumed: 1},   // 7, none to be rolled
			{Id: 3, Kind: api.LAllow, From: 100 * day, Until: 130 * day, Granted: 6, Expired: 6},   // none
			{Id: 4, Kind: api.LPack, From: 100 * day, Until: 130 * day, Granted: 30, Consumed: 11}, // 19, none to be rolled
			{Id: 5, Kind: api.LAllow, From: 105 * day, Until: 130 * day, Granted: 7, Held: 2},      // 7
			{Id: 6, Kind: api.LAllow, From: 105 * day, Until: 131 * day, Granted: 70},              // stays
			{Id: 7, Kind: api.LAllow, From: 110 * day, Until: 130 * day, Granted: 3},               // 3
		}
		rolled := min(most, 15)
		want := clone(a)
		want.Term, want.From, want.To, want.Next, want.Over, want.Holds = 8, 130, 158, 13, 0, nil
		want.Lots = []api.Lot{a.Lots[5], {Id: 12, Kind: api.LAllow, From: 130 * day, Until: 158 * day, Granted: 301}}
		if rolled > 0 {
			want.Lots = append(want.Lots, api.Lot{Id: 13, Kind: api.LRoll, From: 130 * day, Until: 158 * day, Granted: rolled})
			want.Next = 14
		}
		comesTo(t, a, want, api.Statement{Name: "tenant-1", Term: 7, From: 100, To: 130, Granted: 63, Consumed: 16, Expired: 6 + 7 + 19 + 15 - rolled, Rolled: rolled, Over: 17})
	}
}

// TestP1402Order: the first lots are rolled first; what is not rolled of a lot expires in it.
func TestP1402Order(t *testing.T) {
	l := []api.Lot{
		{Id: 1, Kind: api.LAllow, Until: 9, Granted: 9, Consumed: 4},
		{Id: 2, Kind: api.LRoll, Until: 9, Granted: 8, Consumed: 1},
		{Id: 3, Kind: api.LAllow, Until: 7, Granted: 7, Expired: 1},
		{Id: 4, Kind: api.LPack, Until: 9, Granted: 30},
		{Id: 6, Kind: api.LAllow, Until: 5, Granted: 3},
	}
	for most, each := range map[int][]int{0: {0, 0, 0}, 1: {1, 0, 0}, 4: {4, 0, 0}, 5: {5, 0, 0}, 6: {5, 1, 0}, 11: {5, 6, 0}, 12: {5, 6, 1}, 14: {5, 6, 3}, 15: {5, 6, 3}, api.MaxUnits: {5, 6, 3}} {
		got, n := closing.Ended(l, most)
		want := slices.Clone(l)
		want[0].Rolled, want[0].Expired = each[0], 5-each[0]
		want[1].Expired = 7
		want[2].Rolled, want[2].Expired = each[1], 1+6-each[1]
		want[3].Expired = 30
		want[4].Rolled, want[4].Expired = each[2], 3-each[2]
		if !slices.Equal(got, want) || n != each[0]+each[1]+each[2] {
			t.Fatalf("P1402: up to %d: %+v, %d, not %+v", most, got, n, want)
		}
	}
}

// TestP1402NoRoll: where nothing is rolled there is no lot of it, and one Id less is taken: a cap of 0, nothing left, nothing left but of other kinds.
func TestP1402NoRoll(t *testing.T) {
	for name, f := range map[string]func(a *api.Account){
		"a cap of 0":      func(a *api.Account) { a.Plan.Cap = 0 },
		"all consumed":    func(a *api.Account) { a.Lots[0].Consumed, a.Lots[4].Consumed, a.Lots[0].Expired = 300, 70, 0 },
		"all expired":     func(a *api.Account) { a.Lots[0].Expired, a.Lots[4].Expired = 280, 69 },
		"no lots of it":   func(a *api.Account) { a.Lots = a.Lots[1:4] },
		"it ends later":   func(a *api.Account) { a.Lots[0].Until++; a.Lots[4].Until++ },
		"it has no units": func(a *api.Account) { a.Lots[0] = api.Lot{Id: 2, Until: 5}; a.Lots = a.Lots[:4] },
	} {
		a := rich()
		for i := range a.Lots {
			a.Lots[i].Held = 0
		}
		a.Holds = nil
		f(&a)
		isAllowed(t, "P1302", a)
		b, s := isClosed(t, a, 130*day)
		last := b.Lots[len(b.Lots)-1]
		if s.Rolled != 0 || b.Next != 13 || last.Id != 12 || last.Kind != api.LAllow || last.Granted != 301 {
			t.Fatalf("P1402: %s: %+v, %+v", name, b, s)
		}
	}
}

// TestP1402Rolled: what was rolled once is used first or last as any lot, and is not rolled again.
func TestP1402Rolled(t *testing.T) {
	a := begun(t, byDays(10, 8, 5), 0)
	for term := 1; term < 6; term++ {
		b, s := isClosed(t, a, term*10*day)
		want := api.Statement{Name: "a", Term: term, From: term*10 - 10, To: term * 10, Granted: 13, Expired: 8, Rolled: 5}
		if term == 1 {
			want.Granted, want.Expired = 8, 3
		}
		if s != want || lots.Left(b.Lots, term*10*day) != 13 || lots.Left(b.Lots, term*10*day-1) != 0 {
			t.Fatalf("P1402: term %d: %+v, %+v", term, s, b)
		}
		a = b
	}
	a = does(t, a, 50*day, hold(1, 13, 9), commit(2, 1, 13))
	if _, s := isClosed(t, a, 60*day); s.Consumed != 13 || s.Rolled != 0 || s.Expired != 0 {
		t.Fatalf("P1402: %+v", s)
	}
}

// TestP1402Rest: all that a closing has no business with stays: names, plan, key, window.
func TestP1402Rest(t *testing.T) {
	a := rich()
	b, _ := isClosed(t, a, 130*day)
	if b.Name != a.Name || b.Key != a.Key || b.Plan != a.Plan || !slices.Equal(b.Window, a.Window) {
		t.Fatalf("P1402: %+v", b)
	}
	for _, r := range []api.Request{commit(70, 40, 1), release(70, 44), release(70, 50)} {
		if _, x, _ := account.Do(b, r, 131*day); x != (api.Answer{Err: api.ErrNone}) {
			t.Fatalf("P1402: a hold is open still: %+v: %+v", r, x)
		}
	}
	for _, x := range a.Window { // T5
		if _, y, put := account.Do(b, hold(x.Id, 1, 1), 131*day); y != x.Answer || put {
			t.Fatalf("T5: %d: %+v, %t, not %+v", x.Id, y, put, x.Answer)
		}
	}
}

// TestP1402Terms: one behind the other, without a gap, each at its first tick, or all of them late.
func TestP1402Terms(t *testing.T) {
	for _, p := range []api.Plan{byDays(1, 5, 0), byDays(7, 5, 3), byDays(366, 0, 9), byMonths(1, 100, 40), byMonths(15, 100, 0), byMonths(29, 100, 100), byMonths(31, 100, 500)} {
		for _, start := range []int{0, 58*day + 9, 19400 * day} {
			onTime, late := begun(t, p, start), begun(t, p, start)
			for term := 1; term < 60; term++ {
				b, s := isClosed(t, onTime, onTime.To*day)
				isBusy(t, b, b.To*day-1)
				if s.Term != term || s.From != onTime.From || s.To != onTime.To || b.Term != term+1 || b.From != onTime.To || b.To <= b.From {
					t.Fatalf("W4: %+v: %+v behind %+v", p, b, s)
				}
				for _, x := range b.Lots {
					if x.From != s.To*day || x.Until != b.To*day {
						t.Fatalf("W4: %+v: lot %+v", p, x)
					}
				}
				c, u := isClosed(t, late, api.LastTick-term)
				if u != s || !rec.SameAccount(b, c) {
					t.Fatalf("P1403: %+v: term %d closed late: %+v, not %+v", p, term, c, b)
				}
				onTime, late = b, c
			}
		}
	}
}

// TestP1402TwiceNot: a term that was closed is not due any more, till the next one is over (T6).
func TestP1402TwiceNot(t *testing.T) {
	b, _ := isClosed(t, rich(), 130*day)
	for _, now := range []int{130 * day, 131 * day, 158*day - 1} {
		isBusy(t, b, now)
	}
	_, s := isClosed(t, b, 158*day)
	if s != (api.Statement{Name: "tenant-1", Term: 8, From: 130, To: 158, Granted: 301 + 280 + 30, Consumed: 8, Expired: 2 + 20 + 280 + 21, Rolled: 280}) {
		t.Fatalf("P1402: %+v", s)
	}
}

// TestP1402ManyLots: as many as a life comes to, all of which stay but the allowance; terms go on, but nothing can be bought till they end.
func TestP1402ManyLots(t *testing.T) {
	a := begun(t, byDays(30, 10, 5), 0)
	for i := 1; i < api.MaxLots; i++ {
		a = does(t, a, 30*day-1, pack(i, 1, 100000)) // into the fourth term
	}
	for term, many := range []int{13, 13, 13, 2} {
		now := (term + 1) * 30 * day
		var s api.Statement
		a, s = isClosed(t, a, now)
		isAllowed(t, "P1403", a)
		if s.Rolled != 5 || len(a.Lots) != many {
			t.Fatalf("P1402: term %d: %+v, %+v", term, s, a)
		}
		if _, x, _ := account.Do(a, pack(50, 1, 1), now); (x.Err == api.ErrMany) != (many >= api.MaxLots) {
			t.Fatalf("P1304: %+v", x)
		}
	}
}

// TestP1402Bounds: the greatest numbers that an account may have and still be closed to one that may be.
func TestP1402Bounds(t *testing.T) {
	a := rich()
	a.Term, a.Next, a.Over = mostID-1, mostID-2, 1<<53
	a.Holds, a.Lots = nil, nil
	for i := range api.MaxLots {
		a.Lots = append(a.Lots, api.Lot{Id: mostID - 100 + i, Kind: api.LPack, Until: mostID, Granted: mostID})
	}
	for i := range 2 {
		a.Lots = append(a.Lots, api.Lot{Id: mostID - 50 + i, Kind: api.LAllow, Until: 130 * day, Granted: mostID})
	}
	a.Plan.Cap, a.Plan.Allowance = api.MaxUnits, api.MaxUnits
	want := clone(a)
	want.Term, want.From, want.To, want.Next, want.Over = mostID, 130, 158, mostID, 0
	want.Lots = append(want.Lots[:api.MaxLots],
		api.Lot{Id: mostID - 2, Kind: api.LAllow, From: 130 * day, Until: 158 * day, Granted: api.MaxUnits},
		api.Lot{Id: mostID - 1, Kind: api.LRoll, From: 130 * day, Until: 158 * day, Granted: api.MaxUnits})
	isAllowed(t, "P1403", want)
	comesTo(t, a, want, api.Statement{Name: "tenant-1", Term: mostID - 1, From: 100, To: 130, Granted: 2 * mostID, Expired: 2*mostID - api.MaxUnits, Rolled: api.MaxUnits, Over: 1 << 53})
}

// withPacks is an account of so many packs that stay, behind a lot of the allowance that ends with so many units left (below 0: there is none).
func withPacks(n, units int) api.Account {
	a := rich()
	a.Holds, a.Lots, a.Next = nil, nil, 50
	if units >= 0 {
		a.Lots = []api.Lot{{Id: 1, Kind: api.LAllow, Until: 130 * day, Granted: units}}
	}
	for i := range n {
		a.Lots = append(a.Lots, api.Lot{Id: 2 + i, Kind: api.LPack, Until: 131 * day, Granted: 5})
	}
	return a
}

// TestP1402NoRoom: accounts that no life comes to, whose next term has a lot, or a number, that is one too many. P1402 has no error for it: they are closed all the same, and Check refuses what they become.
func TestP1402NoRoom(t *testing.T) {
	at := func(term, next int) api.Account {
		a := withPacks(3, 9)
		a.Term, a.Next = term, next
		return a
	}
	for i, x := range []struct {
		a    api.Account
		want api.Errno
	}{
		{withPacks(12, 9), api.OK}, {withPacks(13, 9), api.ErrMany}, {withPacks(13, 0), api.OK}, {withPacks(13, -1), api.OK}, {withPacks(14, -1), api.ErrMany},
		{at(mostID-1, 50), api.OK}, {at(mostID, 50), api.ErrArg},
		{at(1, mostID-2), api.OK}, {at(1, mostID-1), api.ErrArg}, {at(1, mostID), api.ErrArg},
	} {
		isAllowed(t, "P1302", x.a)
		b, _ := isClosed(t, x.a, 130*day)
		if e := account.Check(b); e != x.want {
			t.Fatalf("P1402: %d: %+v: %v, not %v", i, b, e, x.want)
		}
	}
}

// TestP1402NoTick: numbers that are no ticks are ahead of all days, or behind them.
func TestP1402NoTick(t *testing.T) {
	want, s := richClosed()
	for _, now := range []int{-1, -day, -1 << 40, math.MinInt} {
		isBusy(t, rich(), now)
	}
	for _, now := range []int{api.LastTick + 1, 1 << 53, math.MaxInt} {
		if b, u := isClosed(t, rich(), now); u != s || !rec.SameAccount(b, want) {
			t.Fatalf("P1403: at %d: %+v, %+v", now, b, u)
		}
	}
}
