package closing_test

import (
	"testing"

	"toll/account"
	"toll/api"
	"toll/closing"
	"toll/rec"
)

// dice are bytes that a life is made of; behind their end they are noughts.
type dice []byte

func (d *dice) roll(n int) int {
	if len(*d) == 0 {
		return 0
	}
	k := int((*d)[0])
	*d = (*d)[1:]
	return k % n
}

// pick is one of several things.
func pick[T any](d *dice, from ...T) T {
	return from[d.roll(len(from))]
}

// thrown are so many dice, always the same of the same seed.
func thrown(n int, seed uint64) dice {
	d := make(dice, n)
	for i := range d {
		seed = seed*6364136223846793005 + 1442695040888963407
		d[i] = byte(seed >> 56)
	}
	return d
}

func (d *dice) plan() api.Plan {
	p := byDays(pick(d, 1, 1, 2, 3, 7, 30), pick(d, 0, 1, 10, 100, 250), pick(d, 0, 3, 10, 60, 1000))
	if d.roll(3) == 0 {
		p = byMonths(1+d.roll(31), 5*d.roll(60), pick(d, 0, 3, 40, 1000))
	}
	p.Mode = d.roll(2)
	return p
}

// life is an account that lives, and what it came to so far.
type life struct {
	t       *testing.T
	a       api.Account
	now     int
	last    int             // the last request's number
	granted int             // in all lots that there ever were
	used    int             // by all commits
	stated  []api.Statement // of all terms that were closed
}

func (l *life) goesOn(d *dice) {
	switch d.roll(12) {
	case 0:
		if p := d.plan(); d.roll(2) == 0 {
			l.changes(p)
		}
	case 1, 2, 3:
		l.closes(d)
	default:
		l.asks(d)
	}
	l.addsUp()
}

// changes gives it another plan, where it can have one.
func (l *life) changes(p api.Plan) {
	l.t.Helper()
	if b, e := account.Change(l.a, p, l.now); e == api.OK {
		l.granted += b.Lots[len(b.Lots)-1].Granted
		l.a = b
	}
}

// asks does a request, mostly one that can be done.
func (l *life) asks(d *dice) {
	l.t.Helper()
	l.last++
	r := api.Request{
		Kind: pick(d, api.KHold, api.KHold, api.KHold, api.KCommit, api.KCommit, api.KRelease, api.KPack),
		Id:   l.last,
		N:    pick(d, 1, 2, 3, 9, 20, 50, 200),
		TTL:  pick(d, 1, 30, 500, 1440, 3000, 20000, api.MaxTTL),
	}
	if len(l.a.Holds) > 0 {
		h := l.a.Holds[d.roll(len(l.a.Holds))]
		r.Of = h.Id
		if r.Kind == api.KCommit {
			r.N = h.Over
			for _, p := range h.Parts {
				r.N += p.N
			}
			r.N = pick(d, 0, r.N, r.N/2, r.N-h.Over)
		}
	}
	b, x, _ := account.Do(l.a, r, l.now)
	l.a = b
	if x.Err == api.OK && r.Kind == api.KPack {
		l.granted += r.N
	}
	if x.Err == api.OK && r.Kind == api.KCommit {
		l.used += r.N
	}
}

// closes closes terms that are over, one, some or all of them; where none is it is refused.
func (l *life) closes(d *dice) {
	l.t.Helper()
	for range pick(d, 1, 1, 2, 1000) {
		if l.now < l.a.To*day {
			isBusy(l.t, l.a, l.now)
			return
		}
		l.closesOne()
	}
}

func (l *life) closesOne() {
	l.t.Helper()
	b, s := isClosed(l.t, l.a, l.now)
	if !hasRoom(b) {
		l.t.Fatalf("P1403: a life came to %+v", b)
	}
	for _, now := range []int{l.a.To * day, l.now + 1, l.now + 3*day, b.To * day, api.LastTick} {
		if c, u := isClosed(l.t, l.a, now); u != s || !rec.SameAccount(b, c) {
			l.t.Fatalf("P1403: Close(%+v, %d): %+v, %+v, not as at %d: %+v, %+v", l.a, now, c, u, l.now, b, s)
		}
	}
	units := b.Lots[len(b.Lots)-1].Granted
	if s.Rolled > 0 { // the lot of those is the last one, and has them all
		if units != s.Rolled || s.Rolled > l.a.Plan.Cap {
			l.t.Fatalf("P1402: %d were rolled, by %+v: %+v", s.Rolled, l.a.Plan, b.Lots)
		}
		units += b.Lots[len(b.Lots)-2].Granted
	}
	l.granted += units
	l.stated = append(l.stated, s)
	l.a = b
}

// addsUp: the account may be; of all that was ever granted and used each unit stands in a statement, or in the account (T3); no term is missing, or told twice (T6).
func (l *life) addsUp() {
	l.t.Helper()
	isAllowed(l.t, "P1403", l.a)
	granted, used, to := 0, l.a.Over, -1
	for _, x := range l.a.Lots {
		granted += x.Granted
		used += x.Consumed
	}
	for i, s := range l.stated {
		granted += s.Granted
		used += s.Consumed + s.Over
		if s.Term != i+1 || i > 0 && s.From != to || s.To <= s.From || s.Name != l.a.Name {
			l.t.Fatalf("W4: %+v behind day %d", s, to)
		}
		to = s.To
	}
	if granted != l.granted || used != l.used {
		l.t.Fatalf("T3: %d granted, not %d; %d used, not %d: %+v, %+v", granted, l.granted, used, l.used, l.a, l.stated)
	}
	if l.a.Term != len(l.stated)+1 || len(l.stated) > 0 && l.a.From != to {
		l.t.Fatalf("W4: %+v behind %+v", l.a, l.stated)
	}
}

// live is a whole life, as the dice say.
func live(t *testing.T, d dice) *life {
	t.Helper()
	l := &life{t: t, now: pick(&d, 0, 30*day, 19400*day) + 100*d.roll(200)}
	l.a = begun(t, d.plan(), l.now)
	l.granted = l.a.Lots[0].Granted
	steps := pick(&d, []int{0, 0, 1, 5, 200, 1000}, []int{0, 0, 0, 100, 1440}, []int{0, 0, 700, 3000, 30000})
	for len(d) > 0 && l.now < api.LastTick-40*day {
		l.now += pick(&d, steps...)
		l.goesOn(&d)
	}
	return l
}

// TestP1403Lives: accounts that are used, closed in time or late, changed; each one on the way is allowed, and nothing is lost.
func TestP1403Lives(t *testing.T) {
	terms, rolled, over, full := 0, 0, 0, 0
	for seed := range 700 {
		l := live(t, thrown(700, uint64(seed)*977+1))
		for _, s := range l.stated {
			terms++
			rolled += min(s.Rolled, 1)
			over += min(s.Over, 1)
		}
		if len(l.a.Lots) >= api.MaxLots {
			full++
		}
	}
	if terms < 5000 || rolled < 500 || over < 100 || full < 1 { // else these lives hold nothing
		t.Fatalf("P1403: %d terms, %d with something rolled, %d with something over, %d full accounts", terms, rolled, over, full)
	}
}

// TestP1403AtOnce: terms that nobody used come to the same, however long nobody closed them.
func TestP1403AtOnce(t *testing.T) {
	for seed := range 60 {
		a := live(t, thrown(300, uint64(seed)*31+9)).a
		onTime, late := a, a
		for range 12 {
			b, s := isClosed(t, onTime, onTime.To*day)
			c, u := isClosed(t, late, api.LastTick)
			if s != u || !rec.SameAccount(b, c) {
				t.Fatalf("P1403: %+v, %+v, not %+v, %+v", c, u, b, s)
			}
			onTime, late = b, c
		}
	}
}

// account is one that Check allows, of any sort, whose term ends on day to.
func (d *dice) account(to int) api.Account {
	a := api.Account{Name: "a", Key: "k", Plan: d.plan(), Term: 1 + d.roll(9), Next: 1, Over: d.roll(50), To: to}
	a.From = max(to-1-d.roll(40), 0)
	for range d.roll(api.MaxLots + 3) {
		x := api.Lot{Id: a.Next + d.roll(3), Kind: d.roll(3), Granted: d.roll(90), Until: max(to*day+pick(d, -3000, -1, 0, 0, 0, 1, 3000), 1)}
		x.From = max(x.Until-pick(d, 1, 100, 5000), 0)
		rest := x.Granted
		for _, n := range []*int{&x.Consumed, &x.Expired, &x.Rolled} {
			*n = pick(d, 0, 0, 0, rest, rest/3, d.roll(rest+1))
			rest -= *n
		}
		a.Lots, a.Next = append(a.Lots, x), x.Id+1+d.roll(2)
	}
	id := 0
	for range d.roll(api.MaxHolds + 1) {
		id += 1 + d.roll(3)
		a.Holds = append(a.Holds, d.hold(&a, id))
		a.Window = append(a.Window, api.Entry{Id: id, Answer: api.Answer{Left: d.roll(9), N: d.roll(9)}})
	}
	return a
}

// hold is one of any of the lots, whose Held is more then.
func (d *dice) hold(a *api.Account, id int) api.Hold {
	h := api.Hold{Id: id, Over: d.roll(9), Until: max(a.To*day-50+d.roll(100), 0)}
	if len(a.Lots) == 0 {
		return h
	}
	first := d.roll(len(a.Lots))
	for i := range d.roll(len(a.Lots) + 1) {
		x := &a.Lots[(first+i)%len(a.Lots)]
		if rest := x.Granted - x.Consumed - x.Held - x.Expired - x.Rolled; rest > 0 {
			n := 1 + d.roll(rest)
			x.Held += n
			h.Parts = append(h.Parts, api.Part{Lot: x.Id, N: n})
		}
	}
	return h
}

// isTold holds Due and Close of an account that Check allows against the plain reading, at any tick.
func isTold(t *testing.T, a api.Account, now int) {
	t.Helper()
	switch _, _, e := closed(a, now); e {
	case api.OK:
		isClosed(t, a, now)
	case api.ErrBusy:
		isBusy(t, a, now)
	default:
		isRefused(t, a, now, e)
	}
}

// TestP1403Any: whatever Check allows, ahead of its term's end and behind it; several terms of it.
func TestP1403Any(t *testing.T) {
	for seed := range 5000 {
		d := thrown(400, uint64(seed)*104729+3)
		to := pick(&d, 1, 3, 5, 400, 19416, 2777000)
		a := d.account(to)
		isAllowed(t, "P1302", a)
		for range 3 {
			for _, now := range []int{a.To*day - 1 - d.roll(100), a.To*day - 1, a.To * day, a.To*day + d.roll(100), a.To*day + 3000} {
				isTold(t, a, now)
			}
			b, _, _ := closing.Close(a, a.To*day)
			if !hasRoom(b) {
				break
			}
			a = b
		}
	}
}

// FuzzLives looks for lives, and for accounts in the midst of one, that P1401 to P1403 do not hold for.
func FuzzLives(f *testing.F) {
	f.Add([]byte{}, false)
	f.Add([]byte(thrown(300, 3)), false)
	f.Add([]byte(thrown(900, 4)), false)
	f.Add([]byte(thrown(300, 5)), true)
	f.Fuzz(func(t *testing.T, b []byte, midst bool) {
		d := dice(b[:min(len(b), 2000)])
		if !midst {
			live(t, d)
			return
		}
		a := d.account(1 + 40*d.roll(256))
		isAllowed(t, "P1302", a)
		isTold(t, a, a.To*day+d.roll(9)-4)
	})
}
