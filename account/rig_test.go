package account_test

import (
	"cmp"
	"slices"
	"testing"

	"toll/account"
	"toll/api"
	"toll/plan"
	"toll/rec"
)

const (
	day    = api.Day
	mostID = 1 << 40
)

// byDays is a plan of terms of so many days, byMonths one of terms that begin on such a day of each month.
func byDays(days, allowance, mode int) api.Plan {
	return api.Plan{Name: "by-days", Version: 1, Allowance: allowance, Kind: api.TDays, Days: days, Mode: mode, Burst: 1}
}

func byMonths(anchor, allowance, mode int) api.Plan {
	return api.Plan{Name: "by-months", Version: 2, Allowance: allowance, Kind: api.TMonth, Anchor: anchor, Cap: 9, Mode: mode, Burst: 5, Rate: 2}
}

func hold(id, n, ttl int) api.Request {
	return api.Request{Kind: api.KHold, Id: id, N: n, TTL: ttl}
}

func commit(id, of, n int) api.Request {
	return api.Request{Kind: api.KCommit, Id: id, Of: of, N: n}
}

func release(id, of int) api.Request {
	return api.Request{Kind: api.KRelease, Id: id, Of: of}
}

func pack(id, n, ttl int) api.Request {
	return api.Request{Kind: api.KPack, Id: id, N: n, TTL: ttl}
}

func show() api.Request {
	return api.Request{Kind: api.KShow}
}

// ok and no are answers: of a request that was done, and of one that was refused.
func ok(left, over, n int) api.Answer {
	return api.Answer{Left: left, Over: over, N: n}
}

func no(e api.Errno) api.Answer {
	return api.Answer{Err: e}
}

// clone shares nothing with a.
func clone(a api.Account) api.Account {
	a.Lots, a.Holds, a.Window = slices.Clone(a.Lots), slices.Clone(a.Holds), slices.Clone(a.Window)
	for i, h := range a.Holds {
		a.Holds[i].Parts = slices.Clone(h.Parts)
	}
	return a
}

// rich is an account that has something of everything, of tick 115 days on.
func rich() api.Account {
	return api.Account{
		Name: "tenant-1", Key: "key-1",
		Plan: api.Plan{Name: "basic", Version: 3, Allowance: 300, Kind: api.TDays, Days: 30, Cap: 40, Mode: api.MOver, Burst: 5, Rate: 2},
		Term: 7, From: 100, To: 130,
		Lots: []api.Lot{
			{Id: 2, Kind: api.LAllow, From: 100 * day, Until: 130 * day, Granted: 300, Consumed: 20, Held: 35, Expired: 5},
			{Id: 3, Kind: api.LRoll, From: 100 * day, Until: 130 * day, Granted: 40, Held: 10, Rolled: 1},
			{Id: 6, Kind: api.LPack, From: 110*day + 3, Until: 119 * day, Granted: 50, Consumed: 9, Held: 4},
			{Id: 9, Kind: api.LPack, From: 90 * day, Until: 150 * day, Granted: 30, Consumed: 8, Expired: 2, Rolled: 3},
		},
		Next: 12, Over: 17,
		Holds: []api.Hold{
			{Id: 40, Parts: []api.Part{{Lot: 3, N: 10}, {Lot: 2, N: 30}}, Over: 6, Until: 120 * day},
			{Id: 44, Parts: []api.Part{{Lot: 6, N: 4}, {Lot: 2, N: 5}}, Until: 121 * day},
			{Id: 50, Over: 3, Until: 118 * day},
		},
		Window: []api.Entry{
			{Id: 39, Answer: no(api.ErrQuota)},
			{Id: 40, Answer: ok(260, 17, 40)},
			{Id: 44, Answer: ok(251, 17, 9)},
			{Id: 50, Answer: ok(251, 17, 0)},
			{Id: 60, Answer: no(api.ErrNone)},
		},
	}
}

func rest(l api.Lot) int {
	return l.Granted - (l.Consumed + l.Held + l.Expired + l.Rolled)
}

func left(a api.Account, now int) int {
	n := 0
	for _, x := range a.Lots {
		if x.From <= now && now < x.Until {
			n += rest(x)
		}
	}
	return n
}

func total(h api.Hold) int {
	n := h.Over
	for _, p := range h.Parts {
		n += p.N
	}
	return n
}

// place tells where the hold of an Id stands (below 0: nowhere).
func place(a api.Account, id int) int {
	return slices.IndexFunc(a.Holds, func(h api.Hold) bool { return h.Id == id })
}

// endHold reads P1004 plainly, and what lacks is over.
func endHold(a *api.Account, id, n, now int) {
	i := place(*a, id)
	for _, p := range a.Holds[i].Parts {
		used := min(n, p.N)
		n -= used
		x := &a.Lots[slices.IndexFunc(a.Lots, func(l api.Lot) bool { return l.Id == p.Lot })]
		x.Held -= p.N
		x.Consumed += used
		if now >= x.Until {
			x.Expired += p.N - used
		}
	}
	a.Over += n
	a.Holds = slices.Delete(a.Holds, i, i+1)
}

// takeUnits reads P1003 plainly: lot by lot, each time the one whose turn it is is looked for.
func takeUnits(a *api.Account, n, now int) (parts []api.Part, lack int) {
	for n > 0 {
		turn := -1
		for i, x := range a.Lots {
			if x.From > now || now >= x.Until || rest(x) == 0 {
				continue
			}
			if turn < 0 || x.Until < a.Lots[turn].Until { // lots stand by their Ids
				turn = i
			}
		}
		if turn < 0 {
			break
		}
		x := &a.Lots[turn]
		k := min(n, rest(*x))
		x.Held += k
		parts = append(parts, api.Part{Lot: x.Id, N: k})
		n -= k
	}
	return parts, n
}

// swept reads P1303 plainly.
func swept(a api.Account, now int) api.Account {
	a = clone(a)
	for _, h := range slices.Clone(a.Holds) {
		if h.Until <= now {
			endHold(&a, h.Id, 0, now)
		}
	}
	return a
}

// noted is the account with one entry more in its window.
func noted(a api.Account, id int, x api.Answer) api.Account {
	a = clone(a)
	a.Window = append(a.Window, api.Entry{Id: id, Answer: x})
	slices.SortFunc(a.Window, func(x, y api.Entry) int { return cmp.Compare(x.Id, y.Id) })
	if n := len(a.Window) - api.IdemWindow; n > 0 {
		a.Window = a.Window[n:]
	}
	return a
}

// behind reads P1304 plainly.
func behind(a api.Account, r api.Request, now int) (api.Account, api.Answer, bool) {
	a = clone(a)
	if r.Kind < api.KHold || r.Kind > api.KShow {
		return a, no(api.ErrKind), false
	}
	if r.Kind == api.KShow {
		return a, ok(left(swept(a, now), now), a.Over, 0), false
	}
	if r.Id < 1 || r.Id > mostID {
		return a, no(api.ErrArg), false
	}
	for _, x := range a.Window {
		if x.Id == r.Id {
			return a, x.Answer, false
		}
	}
	if len(a.Window) == api.IdemWindow && r.Id < a.Window[0].Id {
		return a, no(api.ErrStale), false
	}
	a = swept(a, now)
	b := clone(a)
	n, e := kind(&b, r, now)
	if e != api.OK {
		return noted(a, r.Id, no(e)), no(e), true
	}
	x := ok(left(b, now), b.Over, n)
	return noted(b, r.Id, x), x, true
}

// kind reads the table of P1304.
func kind(a *api.Account, r api.Request, now int) (int, api.Errno) {
	out := r.N < 1 || r.N > api.MaxUnits || r.TTL < 1 || r.TTL > api.MaxTTL
	at := place(*a, r.Of)
	switch r.Kind {
	case api.KHold:
		if out {
			return 0, api.ErrArg
		}
		if len(a.Holds) == api.MaxHolds {
			return 0, api.ErrMany
		}
		parts, lack := takeUnits(a, r.N, now)
		if lack > 0 && a.Plan.Mode == api.MHard {
			return 0, api.ErrQuota
		}
		a.Holds = append(a.Holds, api.Hold{Id: r.Id, Parts: parts, Over: lack, Until: now + r.TTL})
		slices.SortFunc(a.Holds, func(x, y api.Hold) int { return cmp.Compare(x.Id, y.Id) })
		return r.N - lack, api.OK
	case api.KPack:
		if out {
			return 0, api.ErrArg
		}
		if len(a.Lots) >= api.MaxLots {
			return 0, api.ErrMany
		}
		a.Lots = append(a.Lots, api.Lot{Id: a.Next, Kind: api.LPack, From: now, Until: now + r.TTL, Granted: r.N})
		a.Next++
		return a.Next - 1, api.OK
	}
	if at < 0 {
		return 0, api.ErrNone
	}
	n, used := total(a.Holds[at]), 0
	if r.Kind == api.KCommit {
		if r.N < 0 || r.N > n {
			return 0, api.ErrArg
		}
		n, used = r.N, r.N
	}
	endHold(a, r.Of, used, now)
	return n, api.OK
}

// changed reads P1305 plainly.
func changed(a api.Account, p api.Plan, now int) (api.Account, api.Errno) {
	if e := plan.Check(p); e != api.OK {
		return api.Account{}, e
	}
	if now < a.From*day || now >= a.To*day {
		return api.Account{}, api.ErrOver
	}
	if len(a.Lots) >= api.MaxLots {
		return api.Account{}, api.ErrMany
	}
	a = swept(a, now)
	for i, x := range a.Lots {
		if x.Kind == api.LAllow && x.Until == a.To*day {
			a.Lots[i].Expired += rest(x)
		}
	}
	days, of := a.To-now/day, a.To-a.From
	a.Lots = append(a.Lots, api.Lot{Id: a.Next, Kind: api.LAllow, From: now, Until: a.To * day, Granted: p.Allowance * days / of})
	a.Next++
	a.Plan = p
	return a, api.OK
}

func isNew(t *testing.T, name, key string, p api.Plan, now int, want api.Account) api.Account {
	t.Helper()
	a, e := account.New(name, key, p, now)
	if e != api.OK || !rec.SameAccount(a, want) {
		t.Fatalf("P1301: New(%q, %q, %+v, %d): %+v, %v, not %+v", name, key, p, now, a, e, want)
	}
	isChecked(t, "P1306: a new account", a, api.OK)
	return a
}

// isNotNew: an error, and nothing is told beside it (P4).
func isNotNew(t *testing.T, name, key string, p api.Plan, now int, want api.Errno) {
	t.Helper()
	if a, e := account.New(name, key, p, now); e != want || !rec.SameAccount(a, api.Account{}) {
		t.Fatalf("P1301: New(%q, %q, %+v, %d): %+v, %v, not %v", name, key, p, now, a, e, want)
	}
}

// begun is a new account.
func begun(t *testing.T, p api.Plan, now int) api.Account {
	t.Helper()
	a, e := account.New("a", "k", p, now)
	if e != api.OK {
		t.Fatalf("P1301: New of %+v at %d: %v", p, now, e)
	}
	return a
}

func isChecked(t *testing.T, what string, a api.Account, want api.Errno) {
	t.Helper()
	was := clone(a)
	if e := account.Check(a); e != want {
		t.Fatalf("%s: Check(%+v): %v, not %v", what, a, e, want)
	}
	isKept(t, was, a)
}

func isSwept(t *testing.T, a api.Account, now int, want api.Account) {
	t.Helper()
	was := clone(a)
	got := account.Sweep(a, now)
	if !rec.SameAccount(got, want) {
		t.Fatalf("P1303: Sweep(%+v, %d): %+v, not %+v", a, now, got, want)
	}
	isKept(t, was, a)
	isBehind(t, was, got)
	if again := account.Sweep(got, now); !rec.SameAccount(again, want) {
		t.Fatalf("P1303: Sweep(%+v, %d), swept again: %+v, not %+v", a, now, again, want)
	}
}

// isDone holds what Do answers against the plain reading, and what must be so of it whatever is answered.
func isDone(t *testing.T, a api.Account, r api.Request, now int) (api.Account, api.Answer, bool) {
	t.Helper()
	was := clone(a)
	b, x, put := account.Do(a, r, now)
	want, y, is := behind(was, r, now)
	if x != y || put != is {
		t.Fatalf("P1304: Do(%+v, %+v, %d): %+v, %t, not %+v, %t", was, r, now, x, put, y, is)
	}
	if !rec.SameAccount(b, want) {
		t.Fatalf("P1304: Do(%+v, %+v, %d): %+v, not %+v", was, r, now, b, want)
	}
	isKept(t, was, a)
	isBehind(t, was, b)
	if put {
		isOnce(t, b, r, now, x)
	}
	return b, x, put
}

// isOnce: the request that was recorded comes again, then and later, and with other numbers.
func isOnce(t *testing.T, a api.Account, r api.Request, now int, want api.Answer) {
	t.Helper()
	other := pack(r.Id, 1, 1)
	for _, r := range []api.Request{r, other} {
		for _, later := range []int{now, min(now+1, api.LastTick), min(now+1000000, api.LastTick)} {
			if b, x, put := account.Do(a, r, later); x != want || put || !rec.SameAccount(a, b) {
				t.Fatalf("P1306: Do(%+v, %+v, %d), again: %+v, %+v, %t, not %+v", a, r, later, b, x, put, want)
			}
		}
	}
}

func isChanged(t *testing.T, a api.Account, p api.Plan, now int, want api.Account) api.Account {
	t.Helper()
	was := clone(a)
	b, e := account.Change(a, p, now)
	if e != api.OK || !rec.SameAccount(b, want) {
		t.Fatalf("P1305: Change(%+v, %+v, %d): %+v, %v, not %+v", a, p, now, b, e, want)
	}
	isKept(t, was, a)
	isBehind(t, was, b)
	return b
}

func isNotChanged(t *testing.T, a api.Account, p api.Plan, now int, want api.Errno) {
	t.Helper()
	was := clone(a)
	if b, e := account.Change(a, p, now); e != want || !rec.SameAccount(b, api.Account{}) {
		t.Fatalf("P1305: Change(%+v, %+v, %d): %+v, %v, not %v", a, p, now, b, e, want)
	}
	isKept(t, was, a)
}

// isBehind holds P1306 and T3: Check allows what came of what it allows; no lot is gone, or has become another one.
func isBehind(t *testing.T, was, is api.Account) {
	t.Helper()
	isChecked(t, "P1306", is, api.OK)
	for i, x := range was.Lots {
		y := is.Lots[i]
		if x.Id != y.Id || x.Kind != y.Kind || x.From != y.From || x.Until != y.Until || x.Granted != y.Granted || x.Rolled != y.Rolled {
			t.Fatalf("T3: lot %+v became %+v", x, y)
		}
		if x.Consumed > y.Consumed || x.Expired > y.Expired {
			t.Fatalf("T3: of lot %+v what was consumed or expired came back: %+v", x, y)
		}
	}
}

func isKept(t *testing.T, was, is api.Account) {
	t.Helper()
	if !rec.SameAccount(was, is) {
		t.Fatalf("P2: %+v became %+v", was, is)
	}
}

// life is an account that lives.
type life struct {
	t *testing.T
	a api.Account
}

// says does a request that is new, and holds its answer.
func (l *life) says(r api.Request, now int, want api.Answer) {
	l.t.Helper()
	b, x, put := isDone(l.t, l.a, r, now)
	if x != want || !put {
		l.t.Fatalf("P1304: Do(%+v, %+v, %d): %+v, %t, not %+v, true", l.a, r, now, x, put, want)
	}
	l.a = b
}

// refuses does a request that is new, and of which nothing may be seen but that holds that were due are not open, and that it is known.
func (l *life) refuses(r api.Request, now int, e api.Errno) {
	l.t.Helper()
	was := l.a
	l.says(r, now, no(e))
	if want := noted(swept(was, now), r.Id, no(e)); !rec.SameAccount(l.a, want) {
		l.t.Fatalf("P1304: Do(%+v, %+v, %d), refused: %+v, not %+v", was, r, now, l.a, want)
	}
}

// passes does a request that is not recorded: the account stays as it is, holds that are due too.
func (l *life) passes(r api.Request, now int, want api.Answer) {
	l.t.Helper()
	b, x, put := isDone(l.t, l.a, r, now)
	if x != want || put || !rec.SameAccount(b, l.a) {
		l.t.Fatalf("P1304: Do(%+v, %+v, %d): %+v, %+v, %t, not %+v, false", l.a, r, now, b, x, put, want)
	}
}

// opens holds what an open hold has.
func (l *life) opens(want api.Hold) {
	l.t.Helper()
	i := place(l.a, want.Id)
	if i < 0 {
		l.t.Fatalf("P1304: hold %d is not open", want.Id)
	}
	if h := l.a.Holds[i]; h.Over != want.Over || h.Until != want.Until || !slices.Equal(h.Parts, want.Parts) {
		l.t.Fatalf("P1304: hold %+v, not %+v", h, want)
	}
}

// has holds a lot, by its Id.
func (l *life) has(want api.Lot) {
	l.t.Helper()
	if !slices.Contains(l.a.Lots, want) {
		l.t.Fatalf("P1304: no lot %+v in %+v", want, l.a.Lots)
	}
}
