package account_test

import (
	"math"
	"testing"

	"toll/api"
	"toll/rec"
)

func TestP1304Example(t *testing.T) {
	l := &life{t, begun(t, byDays(30, 10, api.MHard), 0)}
	l.says(hold(1, 7, 100), 5, ok(3, 0, 7))
	l.refuses(hold(2, 4, 100), 5, api.ErrQuota)
	l.says(release(3, 1), 5, ok(10, 0, 7))
	l.says(hold(4, 4, 100), 5, ok(6, 0, 4))
}

// TestP1304Kinds: of kinds that are none of a tenant's nothing is done, whatever else they say; nothing is swept either.
func TestP1304Kinds(t *testing.T) {
	l := &life{t, rich()}
	for _, k := range []int{0, -1, 6, 7, 15, api.KPlan, api.KTenant, api.KChange, api.KClose, api.KTerms, 21, 257, 1<<32 + 1, math.MinInt, math.MaxInt} {
		for _, id := range []int{0, 1, 40, 70, mostID + 1} {
			r := api.Request{Kind: k, Id: id, N: 1, TTL: 1, Of: 40}
			l.passes(r, 115*day, no(api.ErrKind))
			l.passes(r, 121*day, no(api.ErrKind))
		}
	}
}

// TestP1304Show: what is left behind a sweep is told, of whatever number; the account stays as it is.
func TestP1304Show(t *testing.T) {
	l := &life{t, rich()}
	for _, id := range []int{0, 1, -5, 39, 40, 60, 70, mostID, mostID + 1, math.MinInt} {
		r := api.Request{Kind: api.KShow, Id: id, N: -1, TTL: -1, Of: 40, Name: "x", Key: "y"}
		l.passes(r, 90*day-1, ok(0, 17, 0))
		l.passes(r, 90*day, ok(17, 17, 0)) // lot 9 alone
		l.passes(r, 100*day, ok(17+240+29, 17, 0))
		l.passes(r, 110*day+2, ok(17+240+29, 17, 0))
		l.passes(r, 110*day+3, ok(17+240+29+37, 17, 0))
		l.passes(r, 119*day-1, ok(17+240+29+37, 17, 0)) // hold 50 had no parts
		l.passes(r, 119*day, ok(17+240+29, 17, 0))
		l.passes(r, 120*day-1, ok(17+240+29, 17, 0))
		l.passes(r, 120*day, ok(17+270+39, 17, 0))
		l.passes(r, 121*day, ok(17+275+39, 17, 0))
		l.passes(r, 130*day-1, ok(17+275+39, 17, 0))
		l.passes(r, 130*day, ok(17, 17, 0))
		l.passes(r, 150*day, ok(0, 17, 0))
	}
}

// TestP1304Ids: numbers that are none are refused ahead of all else, and not recorded.
func TestP1304Ids(t *testing.T) {
	l := &life{t, rich()}
	for _, id := range []int{0, -1, -40, mostID + 1, mostID + 40, 1<<41 + 1, math.MinInt, math.MaxInt} {
		for _, r := range []api.Request{hold(id, 1, 1), hold(id, 0, 0), commit(id, 40, 1), release(id, 40), release(id, 99), pack(id, 1, 1)} {
			l.passes(r, 115*day, no(api.ErrArg))
			l.passes(r, 121*day, no(api.ErrArg))
		}
	}
	l.says(hold(1, 5, 9), 115*day, ok(286+37-5, 17, 5))
	l.says(hold(2, 5, 9), 115*day, ok(286+37-10, 17, 5))
	l.says(hold(mostID, 5, 9), 115*day, ok(286+37-15, 17, 5))
	l.says(release(mostID-1, mostID), 115*day, ok(286+37-10, 17, 5))
}

// TestP1304Known: whatever comes with a number that is known is answered as it was then; nothing is done, or swept.
func TestP1304Known(t *testing.T) {
	l := &life{t, rich()}
	for _, x := range l.a.Window {
		for _, r := range []api.Request{hold(x.Id, 1, 1), hold(x.Id, 0, 0), commit(x.Id, 40, 1), commit(x.Id, 99, 1), release(x.Id, 44), pack(x.Id, 5, 5), pack(x.Id, -1, 5)} {
			l.passes(r, 115*day, x.Answer)
			l.passes(r, 125*day, x.Answer)
		}
	}
}

// TestP1304Stale: below twelve that are known a number is stale; with eleven it is new.
func TestP1304Stale(t *testing.T) {
	a := rich()
	a.Window = nil
	for i := range 11 {
		a.Window = append(a.Window, api.Entry{Id: 100 + 10*i, Answer: ok(i, i, i)})
	}
	eleven := &life{t, clone(a)}
	eleven.says(pack(99, 5, 5), 115*day, ok(286+37+5, 17, 12))
	twelve := &life{t, noted(a, 300, no(api.ErrMany))}
	for _, r := range []api.Request{hold(1, 1, 1), hold(99, 0, 0), commit(99, 40, 1), release(40, 40), pack(50, 1, 1)} {
		twelve.passes(r, 115*day, no(api.ErrStale))
		twelve.passes(r, 121*day, no(api.ErrStale))
	}
	twelve.says(pack(101, 5, 5), 115*day, ok(286+37+5, 17, 12)) // between two that are known: new
	twelve.passes(pack(100, 5, 5), 115*day, no(api.ErrStale))
	twelve.passes(pack(99, 5, 5), 115*day, no(api.ErrStale))
	twelve.passes(pack(101, 5, 5), 119*day, ok(286+37+5, 17, 12))
	twelve.passes(pack(300, 5, 5), 119*day, no(api.ErrMany))
	twelve.refuses(release(301, 99), 119*day, api.ErrNone)
	twelve.passes(pack(101, 5, 5), 119*day, no(api.ErrStale))
}

// TestP1304Swept: a request that is new sweeps first, and also where it is refused.
func TestP1304Swept(t *testing.T) {
	for _, x := range []struct {
		r    api.Request
		want api.Answer
	}{
		{hold(70, 300, 5), ok(17+275+39-300, 17, 300)},
		{pack(70, 9, 5), ok(17+275+39+9, 17, 12)},
		{commit(70, 40, 1), no(api.ErrNone)},
		{release(70, 44), no(api.ErrNone)},
		{hold(70, 0, 5), no(api.ErrArg)},
		{pack(70, 1, 0), no(api.ErrArg)},
	} {
		l := &life{t, rich()}
		l.says(x.r, 121*day, x.want)
		for _, id := range []int{40, 44, 50} {
			if place(l.a, id) >= 0 {
				t.Fatalf("P1304: %+v does not sweep hold %d", x.r, id)
			}
		}
	}
}

func TestP1304HoldBounds(t *testing.T) {
	for _, mode := range []int{api.MHard, api.MOver} {
		l := &life{t, begun(t, byDays(30, api.MaxUnits, mode), 0)}
		id := 0
		for _, x := range []struct{ n, ttl int }{{0, 1}, {-1, 1}, {api.MaxUnits + 1, 1}, {1, 0}, {1, -1}, {1, api.MaxTTL + 1}, {0, 0}, {math.MinInt, 5}, {5, math.MinInt}, {math.MaxInt, 5}, {5, math.MaxInt}, {1<<32 + 1, 5}, {5, 1<<32 + 1}} {
			id++
			l.refuses(hold(id, x.n, x.ttl), 3, api.ErrArg)
			id++
			l.refuses(pack(id, x.n, x.ttl), 3, api.ErrArg)
		}
		l.says(hold(101, 1, 1), 3, ok(api.MaxUnits-1, 0, 1))
		l.opens(api.Hold{Id: 101, Parts: []api.Part{{Lot: 1, N: 1}}, Until: 4})
		l.says(hold(102, api.MaxUnits, api.MaxTTL), 4, ok(0, 0, api.MaxUnits))
		l.opens(api.Hold{Id: 102, Parts: []api.Part{{Lot: 1, N: api.MaxUnits}}, Until: 4 + api.MaxTTL})
		l.says(pack(103, api.MaxUnits, api.MaxTTL), 4, ok(api.MaxUnits, 0, 2))
		l.has(api.Lot{Id: 2, Kind: api.LPack, From: 4, Until: 4 + api.MaxTTL, Granted: api.MaxUnits})
		l.says(pack(104, 1, 1), 4, ok(api.MaxUnits+1, 0, 3))
		l.has(api.Lot{Id: 3, Kind: api.LPack, From: 4, Until: 5, Granted: 1})
	}
}

// TestP1304LastTick: what is opened at the last tick lasts beyond it.
func TestP1304LastTick(t *testing.T) {
	l := &life{t, begun(t, byDays(366, 50, api.MHard), api.LastTick)}
	l.says(hold(1, 20, api.MaxTTL), api.LastTick, ok(30, 0, 20))
	l.says(pack(2, 7, api.MaxTTL), api.LastTick, ok(37, 0, 2))
	l.opens(api.Hold{Id: 1, Parts: []api.Part{{Lot: 1, N: 20}}, Until: api.LastTick + api.MaxTTL})
	l.has(api.Lot{Id: 2, Kind: api.LPack, From: api.LastTick, Until: api.LastTick + api.MaxTTL, Granted: 7})
}

// TestP1304Quota: in hard mode just what the valid lots have can be held (T4); what was refused has taken nothing.
func TestP1304Quota(t *testing.T) {
	for has := range 12 {
		for n := 1; n < 14; n++ {
			a := begun(t, byDays(30, has/2, api.MHard), 0)
			l := &life{t, a}
			l.says(pack(1, has+1-has/2, 50), 0, ok(has+1, 0, 2)) // units of two lots, has+1 in all
			if n > has+1 {
				l.refuses(hold(2, n, 9), 1, api.ErrQuota)
			} else {
				l.says(hold(2, n, 9), 1, ok(has+1-n, 0, n))
			}
			if n > has/2 {
				l.refuses(hold(3, n, 9), 50, api.ErrQuota) // the pack is over
			} else {
				l.says(hold(3, n, 9), 50, ok(has/2-n, 0, n))
			}
		}
	}
}

// TestP1304NotYet: a lot that begins later is no help, nor one that has ended.
func TestP1304NotYet(t *testing.T) {
	a := begun(t, byDays(30, 10, api.MHard), 5*day)
	l := &life{t, a}
	l.refuses(hold(1, 1, 9), 5*day-1, api.ErrQuota)
	l.says(hold(2, 1, 9), 5*day, ok(9, 0, 1))
	l.says(hold(3, 1, 9), 35*day-1, ok(9, 0, 1)) // hold 2 is due, and given back
	l.refuses(hold(4, 1, 9), 35*day, api.ErrQuota)
	l.passes(show(), 35*day, ok(0, 0, 0))
}

// TestP1304Over: in over mode a hold has what no lot has as its Over; a commit takes of the lots first.
func TestP1304Over(t *testing.T) {
	for n := range 16 {
		l := &life{t, begun(t, byDays(30, 10, api.MOver), 0)}
		l.a.Over = 100
		l.says(hold(1, 15, 50), 0, ok(0, 100, 10))
		l.opens(api.Hold{Id: 1, Parts: []api.Part{{Lot: 1, N: 10}}, Over: 5, Until: 50})
		l.says(commit(2, 1, n), 1, ok(10-min(n, 10), 100+max(n-10, 0), n))
		l.has(api.Lot{Id: 1, Until: 30 * day, Granted: 10, Consumed: min(n, 10)})
	}
	l := &life{t, begun(t, byDays(30, 0, api.MOver), 0)}
	l.says(hold(1, api.MaxUnits, 50), 0, ok(0, 0, 0))
	l.opens(api.Hold{Id: 1, Over: api.MaxUnits, Until: 50})
	l.refuses(commit(2, 1, api.MaxUnits+1), 1, api.ErrArg)
	l.says(commit(3, 1, api.MaxUnits), 1, ok(0, api.MaxUnits, api.MaxUnits))
	l.says(hold(4, 3, 50), 2, ok(0, api.MaxUnits, 0))
	l.says(release(5, 4), 3, ok(0, api.MaxUnits, 3)) // its Total, of which nothing is over
	l.says(hold(6, 3, 50), 4, ok(0, api.MaxUnits, 0))
	l.passes(show(), 54, ok(0, api.MaxUnits, 0)) // due, and nothing is over
	l.refuses(commit(7, 6, 3), 54, api.ErrNone)
}

// TestP1304Take: of the lots that end first, by their Ids where they end at once.
func TestP1304Take(t *testing.T) {
	l := &life{t, begun(t, byDays(1, 10, api.MHard), 0)}
	l.says(pack(1, 4, 2000), 0, ok(14, 0, 2))
	l.says(pack(2, 3, 30), 0, ok(17, 0, 3))
	l.says(pack(3, 2, 29), 1, ok(19, 0, 4))
	l.says(hold(4, 6, 10), 1, ok(13, 0, 6))
	l.opens(api.Hold{Id: 4, Parts: []api.Part{{Lot: 3, N: 3}, {Lot: 4, N: 2}, {Lot: 1, N: 1}}, Until: 11})
	l.says(hold(5, 11, 100), 1, ok(2, 0, 11))
	l.opens(api.Hold{Id: 5, Parts: []api.Part{{Lot: 1, N: 9}, {Lot: 2, N: 2}}, Until: 101})
	l.says(commit(6, 4, 4), 2, ok(4, 0, 4))
	l.has(api.Lot{Id: 3, Kind: api.LPack, From: 0, Until: 30, Granted: 3, Consumed: 3})
	l.has(api.Lot{Id: 4, Kind: api.LPack, From: 1, Until: 30, Granted: 2, Consumed: 1})
	l.has(api.Lot{Id: 1, Until: day, Granted: 10, Held: 9})
}

// TestP1304Commit: of nothing, of a part, of all, of more than there is; behind it the hold is open no more.
func TestP1304Commit(t *testing.T) {
	for n := -2; n < 10; n++ {
		l := &life{t, begun(t, byDays(30, 10, api.MHard), 0)}
		l.says(hold(5, 7, 100), 0, ok(3, 0, 7))
		if n < 0 || n > 7 {
			l.refuses(commit(6, 5, n), 1, api.ErrArg)
			l.opens(api.Hold{Id: 5, Parts: []api.Part{{Lot: 1, N: 7}}, Until: 100})
			continue
		}
		l.says(commit(6, 5, n), 1, ok(10-n, 0, n))
		l.has(api.Lot{Id: 1, Until: 30 * day, Granted: 10, Consumed: n})
		l.refuses(commit(7, 5, n), 1, api.ErrNone)
		l.refuses(release(8, 5), 1, api.ErrNone)
		l.refuses(commit(9, 5, -1), 1, api.ErrNone) // named ahead of ErrArg
	}
	l := &life{t, begun(t, byDays(30, 10, api.MHard), 0)}
	l.says(hold(5, 7, 100), 0, ok(3, 0, 7))
	for i, n := range []int{math.MinInt, math.MaxInt, 1 << 32, 1<<32 + 1, -1 << 32} {
		l.refuses(commit(10+i, 5, n), 1, api.ErrArg)
	}
}

// TestP1304Of: holds that are not open, however near.
func TestP1304Of(t *testing.T) {
	l := &life{t, begun(t, byDays(30, 10, api.MHard), 0)}
	l.says(hold(5, 1, 100), 0, ok(9, 0, 1))
	l.says(hold(9, 2, 100), 0, ok(7, 0, 2))
	id := 20
	for _, of := range []int{0, 1, 4, 6, 8, 10, -5, 1<<32 + 5, mostID, mostID + 1, math.MinInt, math.MaxInt} {
		l.refuses(commit(id, of, 0), 1, api.ErrNone)
		l.refuses(release(id+1, of), 1, api.ErrNone)
		id += 2
	}
	l.says(release(id, 9), 1, ok(9, 0, 2))
	l.says(commit(id+1, 5, 1), 1, ok(9, 0, 1))
}

// TestP1304Due: at the tick at which a hold is due it is open no more; one ahead it is.
func TestP1304Due(t *testing.T) {
	for _, r := range []api.Request{commit(2, 1, 3), release(2, 1)} {
		for _, now := range []int{99, 100, 101} {
			l := &life{t, begun(t, byDays(30, 10, api.MHard), 0)}
			l.says(hold(1, 4, 100), 0, ok(6, 0, 4))
			switch {
			case now >= 100:
				l.refuses(r, now, api.ErrNone)
				l.has(api.Lot{Id: 1, Until: 30 * day, Granted: 10})
			case r.Kind == api.KCommit:
				l.says(r, now, ok(7, 0, 3))
			default:
				l.says(r, now, ok(10, 0, 4))
			}
		}
	}
}

// TestP1304LotsThatEnd: a hold lasts longer than its lot: what it has can be committed still, and what is given back expires.
func TestP1304LotsThatEnd(t *testing.T) {
	opened := func() *life {
		l := &life{t, begun(t, byDays(30, 3, api.MOver), 0)}
		l.says(pack(1, 5, 20), 0, ok(8, 0, 2))
		l.says(hold(2, 10, 100), 0, ok(0, 0, 8))
		return l
	}
	for now, valid := range map[int]bool{19: true, 20: false, 21: false, 99: false} {
		for n := range 11 {
			l := opened()
			used, over := min(n, 5), max(n-8, 0)
			rest := 3 - max(min(n-5, 3), 0)
			lot := api.Lot{Id: 2, Kind: api.LPack, Until: 20, Granted: 5, Consumed: used}
			if valid {
				rest += 5 - used
			} else {
				lot.Expired = 5 - used
			}
			l.says(commit(3, 2, n), now, ok(rest, over, n))
			l.has(lot)
		}
		l := opened()
		if valid {
			l.says(release(3, 2), now, ok(8, 0, 10))
			l.has(api.Lot{Id: 2, Kind: api.LPack, Until: 20, Granted: 5})
		} else {
			l.says(release(3, 2), now, ok(3, 0, 10))
			l.has(api.Lot{Id: 2, Kind: api.LPack, Until: 20, Granted: 5, Expired: 5})
		}
	}
	l := opened()
	l.refuses(release(3, 2), 100, api.ErrNone) // swept behind the lot's end
	l.has(api.Lot{Id: 2, Kind: api.LPack, Until: 20, Granted: 5, Expired: 5})
}

// TestP1304ManyHolds: twelve, and one more; those that are due make room.
func TestP1304ManyHolds(t *testing.T) {
	for _, mode := range []int{api.MHard, api.MOver} {
		l := &life{t, begun(t, byDays(30, 20, mode), 0)}
		for i := 1; i <= api.MaxHolds; i++ {
			l.says(hold(i, 1, 10*i), 0, ok(20-i, 0, 1))
		}
		l.refuses(hold(13, 1, 1), 9, api.ErrMany)
		l.refuses(hold(14, 0, 1), 9, api.ErrArg)    // named ahead of ErrMany
		l.refuses(hold(15, 500, 1), 9, api.ErrMany) // named ahead of ErrQuota
		l.says(hold(16, 1, 1000), 10, ok(8, 0, 1))  // hold 1 is due
		l.refuses(hold(17, 1, 1), 10, api.ErrMany)
		l.says(release(18, 12), 10, ok(9, 0, 1))
		l.says(hold(19, 1, 1000), 10, ok(8, 0, 1))
		l.refuses(hold(20, 1, 1), 19, api.ErrMany)
		l.says(commit(21, 19, 1), 19, ok(8, 0, 1))
		l.says(hold(22, 1, 1000), 19, ok(7, 0, 1))
		l.refuses(hold(23, 1, 1), 19, api.ErrMany)
	}
}

// TestP1304ManyLots: eleven packs beside the allowance, and one more; those that are over make no room, only a closing does.
func TestP1304ManyLots(t *testing.T) {
	l := &life{t, begun(t, byDays(30, 5, api.MHard), 0)}
	for i := 1; i < api.MaxLots; i++ {
		l.says(pack(i, i, 100), 0, ok(5+i*(i+1)/2, 0, i+1))
	}
	l.refuses(pack(20, 1, 1), 0, api.ErrMany)
	l.refuses(pack(21, 0, 1), 0, api.ErrArg) // named ahead of ErrMany
	l.refuses(pack(22, 1, 1), 5000, api.ErrMany)
	l.says(hold(23, 70, 9), 1, ok(1, 0, 70))
	if n := len(l.a.Holds[0].Parts); n != 12 {
		t.Fatalf("P1304: %d parts", n)
	}
	if l.a.Next != 13 {
		t.Fatalf("P1304: Next is %d", l.a.Next)
	}
	for n := range 15 { // also where there are more of them, as behind a closing
		a := rich()
		a.Lots, a.Holds, a.Next = nil, nil, 100
		for i := range n {
			a.Lots = append(a.Lots, api.Lot{Id: i + 1, Until: 200 * day, Granted: 1})
		}
		m := &life{t, a}
		if n >= api.MaxLots {
			m.refuses(pack(70, 5, 5), 115*day, api.ErrMany)
		} else {
			m.says(pack(70, 5, 5), 115*day, ok(n+5, 17, 100))
			m.has(api.Lot{Id: 100, Kind: api.LPack, From: 115 * day, Until: 115*day + 5, Granted: 5})
		}
	}
}

// TestP1304Next: lots have numbers that none had, also where some are not used.
func TestP1304Next(t *testing.T) {
	a := rich()
	a.Next = 1 << 39
	l := &life{t, a}
	l.says(pack(70, 5, 5), 115*day, ok(323+5, 17, 1<<39))
	l.says(pack(71, 6, 5), 115*day, ok(323+11, 17, 1<<39+1))
	l.refuses(pack(72, 0, 5), 115*day, api.ErrArg)
	l.says(pack(73, 7, 5), 115*day, ok(323+18, 17, 1<<39+2))
	if l.a.Next != 1<<39+3 {
		t.Fatalf("P1304: Next is %d", l.a.Next)
	}
}

// TestP1304Between: a hold whose number is between others stands between them.
func TestP1304Between(t *testing.T) {
	l := &life{t, begun(t, byDays(30, 50, api.MHard), 0)}
	for i, id := range []int{50, 10, 30, 20, 40, 5, 60} {
		l.says(hold(id, 1, 100), 0, ok(49-i, 0, 1))
	}
	l.says(commit(25, 30, 1), 1, ok(43, 0, 1))
	var ids []int
	for _, h := range l.a.Holds {
		ids = append(ids, h.Id)
	}
	for i, id := range []int{5, 10, 20, 40, 50, 60} {
		if ids[i] != id {
			t.Fatalf("P1304: holds %v", ids)
		}
	}
}

// TestP1304Others: what is no matter of the kind is not looked at: key, name, secret, plan, and the numbers of other kinds.
func TestP1304Others(t *testing.T) {
	for _, r := range []api.Request{hold(70, 5, 9), commit(70, 40, 12), release(70, 44), pack(70, 5, 9), show()} {
		b, x, put := isDone(t, rich(), r, 115*day)
		r.Key, r.Name, r.Secret, r.Plan = "nobody", "NONE", "", api.Plan{Version: -1}
		switch r.Kind {
		case api.KHold, api.KPack:
			r.Of = -9
		case api.KCommit:
			r.TTL = -9
		case api.KRelease:
			r.N, r.TTL = -9, 1<<50
		}
		if c, y, is := isDone(t, rich(), r, 115*day); y != x || is != put || !rec.SameAccount(b, c) {
			t.Fatalf("P1304: %+v: %+v, not %+v", r, y, x)
		}
	}
}

// TestP1304Again: each answer of the table comes again, as it was, at another tick; the account is not even swept then.
func TestP1304Again(t *testing.T) {
	for _, r := range []api.Request{hold(70, 5, 9), hold(70, 5000, 9), hold(70, 0, 9), commit(70, 40, 46), commit(70, 40, 47), commit(70, 41, 1), release(70, 44), release(70, 45), pack(70, 5, 9), pack(70, 5, 0)} {
		l := &life{t, rich()}
		_, x, _ := behind(l.a, r, 115*day)
		l.says(r, 115*day, x)
		for _, now := range []int{115 * day, 115*day + 9, 121 * day, 200 * day} {
			l.passes(r, now, x)
			l.passes(commit(70, 50, 0), now, x)
		}
	}
}
