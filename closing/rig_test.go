package closing_test

import (
	"slices"
	"testing"

	"toll/account"
	"toll/api"
	"toll/closing"
	"toll/plan"
	"toll/rec"
)

const (
	day     = api.Day
	mostID  = 1 << 40
	lastDay = 2932896 // 9999-12-31
)

// byDays is a plan of terms of so many days, byMonths one of terms that begin on such a day of each month.
func byDays(days, allowance, most int) api.Plan {
	return api.Plan{Name: "by-days", Version: 1, Allowance: allowance, Kind: api.TDays, Days: days, Cap: most, Burst: 1}
}

func byMonths(anchor, allowance, most int) api.Plan {
	return api.Plan{Name: "by-months", Version: 2, Allowance: allowance, Kind: api.TMonth, Anchor: anchor, Cap: most, Burst: 5, Rate: 2}
}

// inOver is a plan in over mode.
func inOver(p api.Plan) api.Plan {
	p.Mode = api.MOver
	return p
}

func hold(id, n, ttl int) api.Request {
	return api.Request{Kind: api.KHold, Id: id, N: n, TTL: ttl}
}

func commit(id, of, n int) api.Request {
	return api.Request{Kind: api.KCommit, Id: id, Of: of, N: n}
}

func release(id, of int) api.Request {
	return api.Request{Kind: api.KRelease, Id: id, Of: of}
}

func pack(id, n, ttl int) api.Request {
	return api.Request{Kind: api.KPack, Id: id, N: n, TTL: ttl}
}

// clone shares nothing with a.
func clone(a api.Account) api.Account {
	a.Lots, a.Holds, a.Window = slices.Clone(a.Lots), slices.Clone(a.Holds), slices.Clone(a.Window)
	for i, h := range a.Holds {
		a.Holds[i].Parts = slices.Clone(h.Parts)
	}
	return a
}

// rich is an account that has something of everything, in a term of days 100 to 130.
func rich() api.Account {
	return api.Account{
		Name: "tenant-1", Key: "key-1",
		Plan: api.Plan{Name: "basic", Version: 3, Allowance: 301, Kind: api.TDays, Days: 28, Cap: 280, Mode: api.MOver, Burst: 5, Rate: 2},
		Term: 7, From: 100, To: 130,
		Lots: []api.Lot{
			{Id: 2, Kind: api.LAllow, From: 100 * day, Until: 130 * day, Granted: 300, Consumed: 20, Held: 35, Expired: 5},
			{Id: 3, Kind: api.LRoll, From: 100 * day, Until: 130 * day, Granted: 40, Held: 10},
			{Id: 6, Kind: api.LPack, From: 110*day + 3, Until: 119 * day, Granted: 50, Consumed: 9, Held: 4},
			{Id: 9, Kind: api.LPack, From: 90 * day, Until: 150 * day, Granted: 30, Consumed: 8, Held: 5, Expired: 2},
			{Id: 10, Kind: api.LAllow, From: 115 * day, Until: 130 * day, Granted: 70, Consumed: 1},
		},
		Next: 12, Over: 17,
		Holds: []api.Hold{
			{Id: 40, Parts: []api.Part{{Lot: 3, N: 10}, {Lot: 2, N: 30}}, Over: 6, Until: 120 * day},
			{Id: 44, Parts: []api.Part{{Lot: 6, N: 4}, {Lot: 2, N: 5}, {Lot: 9, N: 5}}, Until: 200 * day},
			{Id: 50, Over: 3, Until: 118 * day},
		},
		Window: []api.Entry{
			{Id: 39, Answer: api.Answer{Err: api.ErrQuota}},
			{Id: 40, Answer: api.Answer{Left: 260, Over: 17, N: 40}},
			{Id: 44, Answer: api.Answer{Left: 251, Over: 17, N: 14}},
			{Id: 50, Answer: api.Answer{Left: 251, Over: 17}},
			{Id: 60, Answer: api.Answer{Err: api.ErrNone}},
		},
	}
}

// richClosed is what becomes of rich, worked out by hand: of lot 2 275 remain, which are rolled, of lot 10 69, of which 5 are.
func richClosed() (api.Account, api.Statement) {
	b := rich()
	b.Term, b.From, b.To, b.Next, b.Over, b.Holds = 8, 130, 158, 14, 0, nil
	b.Lots = []api.Lot{
		{Id: 9, Kind: api.LPack, From: 90 * day, Until: 150 * day, Granted: 30, Consumed: 8, Expired: 2},
		{Id: 12, Kind: api.LAllow, From: 130 * day, Until: 158 * day, Granted: 301},
		{Id: 13, Kind: api.LRoll, From: 130 * day, Until: 158 * day, Granted: 280},
	}
	return b, api.Statement{Name: "tenant-1", Term: 7, From: 100, To: 130, Granted: 460, Consumed: 30, Expired: 5 + 40 + 41 + 64, Rolled: 280, Over: 17}
}

// spoiled is rich, with one thing another.
func spoiled(f func(a *api.Account)) api.Account {
	a := rich()
	f(&a)
	return a
}

// closed reads P1402 plainly, of an account that Check allows: what a lot has held is just what its parts have, so with all holds it is gone.
func closed(a api.Account, now int) (api.Account, api.Statement, api.Errno) {
	if now < a.To*day {
		return api.Account{}, api.Statement{}, api.ErrBusy
	}
	to, units, e := plan.Grant(a.Plan, a.To)
	if e != api.OK {
		return api.Account{}, api.Statement{}, e
	}
	s := api.Statement{Name: a.Name, Term: a.Term, From: a.From, To: a.To, Over: a.Over}
	b := clone(a)
	b.Holds, b.Lots = nil, nil
	room := a.Plan.Cap
	for _, x := range a.Lots {
		x.Held = 0
		if x.Until > a.To*day {
			b.Lots = append(b.Lots, x)
			continue
		}
		remain, roll := x.Granted-x.Consumed-x.Expired-x.Rolled, 0
		if x.Kind == api.LAllow {
			roll = min(remain, room)
		}
		room -= roll
		s.Granted += x.Granted
		s.Consumed += x.Consumed
		s.Rolled += x.Rolled + roll
		s.Expired += x.Expired + remain - roll
	}
	b.Lots = append(b.Lots, api.Lot{Id: a.Next, Kind: api.LAllow, From: a.To * day, Until: to * day, Granted: units})
	b.Next++
	if n := a.Plan.Cap - room; n > 0 {
		b.Lots = append(b.Lots, api.Lot{Id: a.Next + 1, Kind: api.LRoll, From: a.To * day, Until: to * day, Granted: n})
		b.Next++
	}
	b.Term, b.From, b.To, b.Over = a.Term+1, a.To, to, 0
	return b, s, api.OK
}

// begun is a new account.
func begun(t *testing.T, p api.Plan, now int) api.Account {
	t.Helper()
	a, e := account.New("a", "k", p, now)
	if e != api.OK {
		t.Fatalf("P1301: New of %+v at %d: %v", p, now, e)
	}
	return a
}

// does does requests, all of which are answered OK.
func does(t *testing.T, a api.Account, now int, l ...api.Request) api.Account {
	t.Helper()
	for _, r := range l {
		b, x, put := account.Do(a, r, now)
		if x.Err != api.OK || !put {
			t.Fatalf("P1304: %+v at %d: %+v, %t", r, now, x, put)
		}
		a = b
	}
	return a
}

func isAllowed(t *testing.T, what string, a api.Account) {
	t.Helper()
	if e := account.Check(a); e != api.OK {
		t.Fatalf("%s: Check(%+v): %v", what, a, e)
	}
}

func isKept(t *testing.T, was, is api.Account) {
	t.Helper()
	if !rec.SameAccount(was, is) {
		t.Fatalf("P2: %+v became %+v", was, is)
	}
}

// isBusy: not due, the error, and nothing is told beside it (P4).
func isBusy(t *testing.T, a api.Account, now int) {
	t.Helper()
	was := clone(a)
	if closing.Due(a, now) {
		t.Fatalf("P1401: Due(%+v, %d)", a, now)
	}
	isKept(t, was, a)
	isRefused(t, a, now, api.ErrBusy)
}

func isRefused(t *testing.T, a api.Account, now int, want api.Errno) {
	t.Helper()
	was := clone(a)
	if b, s, e := closing.Close(a, now); e != want || s != (api.Statement{}) || !rec.SameAccount(b, api.Account{}) {
		t.Fatalf("P1402: Close(%+v, %d): %+v, %+v, %v, not %v", a, now, b, s, e, want)
	}
	isKept(t, was, a)
}

// hasRoom holds of an account that Check can allow: no life comes to more lots, a later term or a greater Id.
func hasRoom(a api.Account) bool {
	return len(a.Lots) <= api.MaxLots+2 && a.Term <= mostID && a.Next <= mostID
}

// isClosed holds what Close answers against the plain reading, and what must be so of it whatever is answered.
func isClosed(t *testing.T, a api.Account, now int) (api.Account, api.Statement) {
	t.Helper()
	was := clone(a)
	if !closing.Due(a, now) {
		t.Fatalf("P1401: not Due(%+v, %d)", a, now)
	}
	b, s, e := closing.Close(a, now)
	c, u, d := closed(was, now)
	if e != d || s != u || !rec.SameAccount(b, c) {
		t.Fatalf("P1402: Close(%+v, %d): %+v, %+v, %v, not %+v, %+v, %v", was, now, b, s, e, c, u, d)
	}
	isKept(t, was, a)
	if hasRoom(b) {
		isAllowed(t, "P1403", b)
	}
	if s.Granted != s.Consumed+s.Expired+s.Rolled || s.Consumed < 0 || s.Expired < 0 || s.Rolled < 0 {
		t.Fatalf("T3: %+v", s)
	}
	return b, s
}

// comesTo holds what Close answers, at the first tick at which it is due and at later ones.
func comesTo(t *testing.T, a api.Account, want api.Account, stated api.Statement) {
	t.Helper()
	isAllowed(t, "P1302", a)
	first := a.To * day
	for _, now := range []int{first, first + 1, first + day - 1, first + day, first + 9*day + 5, want.To * day, 3 * want.To * day, api.LastTick} {
		b, s := isClosed(t, a, now)
		if s != stated {
			t.Fatalf("P1402: Close(%+v, %d): %+v, not %+v", a, now, s, stated)
		}
		if !rec.SameAccount(b, want) {
			t.Fatalf("P1402: Close(%+v, %d): %+v, not %+v", a, now, b, want)
		}
	}
}
