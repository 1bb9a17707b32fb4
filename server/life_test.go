package server_test

import (
	"testing"

	"toll/api"
)

// dice are bytes that a life is made of; behind their end they are noughts.
type dice []byte

func (d *dice) roll(n int) int {
	if len(*d) == 0 {
		return 0
	}
	k := int((*d)[0])
	*d = (*d)[1:]
	return k % n
}

// pick is one of several things.
func pick[T any](d *dice, from ...T) T { return from[d.roll(len(from))] }

// thrown are so many dice, always the same of the same seed.
func thrown(n int, seed uint64) dice {
	d := make(dice, n)
	for i := range d {
		seed = seed*6364136223846793005 + 1442695040888963407
		d[i] = byte(seed >> 56)
	}
	return d
}

// life is a rig with the books that a test keeps of it, by nothing but requests and answers.
type life struct {
	*rig
	burst, rate int
	modes       []int
	lasts       map[string]int                // the greatest number that a tenant has sent
	first       map[string]map[int]api.Answer // what each number was answered first, where that was recorded
	used        map[string]int                // units that were committed
}

func begun(t testing.TB, d *dice, blocks int, modes ...int) *life {
	t.Helper()
	l := &life{rig: newRig(t, blocks, d.roll(200)*day/3), modes: modes, lasts: map[string]int{}, first: map[string]map[int]api.Answer{}, used: map[string]int{}}
	l.burst, l.rate = pick(d, 6, 1, 40, 1000), pick(d, 2, 1, 7, 100)
	for _, name := range []string{"p", "q"} {
		l.do(adds(l.plan(d, name, 1)))
	}
	for i := range 1 + d.roll(3) {
		name := string(rune('a' + i))
		l.do(tenant(name, "k"+name, pick(d, "p", "q"), 1))
	}
	return l
}

// plan is one of any sort; how many may pass is the same of all of them, so that T7 can be asked for it.
func (l *life) plan(d *dice, name string, version int) api.Plan {
	p := api.Plan{Name: name, Version: version, Allowance: pick(d, 100, 0, 7, 31, 1000), Cap: pick(d, 0, 5, 40, 1000), Mode: pick(d, l.modes...), Burst: l.burst, Rate: l.rate}
	if d.roll(4) == 0 {
		p.Kind, p.Anchor = api.TMonth, 1+d.roll(31)
	} else {
		p.Kind, p.Days = api.TDays, 1+d.roll(4)
	}
	return p
}

// request is anybody's, without a look at what it brings; a plan that it adds has this burst and this rate.
func (d *dice) request(burst, rate int) api.Request {
	name := pick(d, "a", "b", "c", "d", "m", "new", "x", "")
	planned := api.Plan{Name: pick(d, "p", "q", "fill", "none"), Version: d.roll(5)}
	switch d.roll(9) {
	case 0:
		p := byDays(planned.Name, planned.Version, d.roll(3), 5)
		p.Burst, p.Rate = burst, rate
		return adds(p)
	case 1:
		return tenant(name, pick(d, "ka", "root", "ke", "kf", ""), planned.Name, planned.Version)
	case 2:
		return change(name, planned.Name, planned.Version)
	case 3:
		return closes(d.roll(9))
	case 4:
		return terms(name, d.roll(4))
	case 5:
		return api.Request{Kind: d.roll(24), Key: pick(d, "root", "ka", "x"), N: 1, Id: 70}
	}
	return api.Request{Kind: 1 + d.roll(5), Key: "k" + name, Id: d.roll(60), N: d.roll(9), TTL: d.roll(900), Of: d.roll(60)}
}

// ofTenant is a tenant's next request: mostly one that may be, and new.
func (l *life) ofTenant(d *dice) api.Request {
	name := string(rune('a' + d.roll(5)))
	if there := l.m.names(); len(there) > 0 && d.roll(16) > 0 {
		name = pick(d, there...)
	}
	q := api.Request{Key: "k" + name, Kind: pick(d, api.KHold, api.KHold, api.KHold, api.KCommit, api.KCommit, api.KCommit, api.KRelease, api.KPack, api.KShow)}
	q.Id = l.lasts[name] + 1 + d.roll(3)
	if d.roll(5) == 0 { // one that was there, or is between such, or is none
		q.Id = pick(d, 0, -1, 1, 2, l.lasts[name], l.lasts[name]-1, l.lasts[name]-3, l.lasts[name]-9, l.lasts[name]-20, 1<<40+1)
	}
	q.N = pick(d, 1, 3, 9, 20, 40, 60, 200, 900, 0, -1, api.MaxUnits+1)
	q.TTL = pick(d, 1, 5, 30, 500, 3000, 3000, 9999, api.MaxTTL, 0)
	q.Of = d.roll(l.lasts[name] + 2)
	if a := l.m.accounts[name]; len(a.Holds) > 0 && d.roll(5) > 0 {
		h := a.Holds[d.roll(len(a.Holds))]
		q.Of = h.Id
		if q.Kind == api.KCommit {
			has := h.Over
			for _, p := range h.Parts {
				has += p.N
			}
			q.N = pick(d, has, has/2, 0, 1, has+1)
		}
	}
	return q
}

// ofAdmin is the admin's next one, mostly one that may be.
func (l *life) ofAdmin(d *dice) api.Request {
	name, of := string(rune('a'+d.roll(6))), pick(d, "p", "q", "r")
	switch d.roll(8) {
	case 0:
		return adds(l.plan(d, of, len(l.m.plans[of])+pick(d, 1, 1, 1, 0, 2)))
	case 1:
		return tenant(name, "k"+name, of, 1+d.roll(len(l.m.plans[of])+1))
	case 2, 3:
		return change(name, of, 1+d.roll(len(l.m.plans[of])+1))
	case 4:
		return terms(name, d.roll(5))
	}
	return closes(pick(d, 1, 1, 2, 3, 5, 100, 0))
}

// step goes on as the dice say.
func (l *life) step(d *dice) {
	l.t.Helper()
	switch d.roll(16) {
	case 0, 1, 2:
		l.ticks(min(l.m.now+pick(d, 0, 1, 1, 1, 2, 5, 60, 500, day, 3*day, 9*day), last))
	case 3:
		l.whole()
		l.opens("root", l.m.now+d.roll(2))
	case 4:
		l.d.Cut(d.roll(60))
	case 5:
		l.d.Cut(-1)
	case 6:
		kill(l.d)
		l.starts(l.m.now)
	case 7:
		l.sends(d, d.request(l.burst, l.rate))
	case 8, 9, 10:
		l.sends(d, l.ofAdmin(d))
	default:
		l.sends(d, l.ofTenant(d))
	}
}

// sends makes a request; where the power goes it is sent again behind the opening, till it is not throttled: so whether it was done is known.
func (l *life) sends(d *dice, q api.Request) {
	l.t.Helper()
	for {
		was := l.m
		x, e := l.do(q)
		if e == api.OK {
			l.keeps(q, x, was)
			return
		}
		l.do(q)
		l.starts(l.m.now + d.roll(2))
		for name, _ := l.m.who(q.Key); name != "" && l.m.buckets[name].reach(l.m.now).has == 0; {
			l.ticks(l.m.now + 1)
		}
	}
}

// keeps holds an answer of a tenant's against T4 and T5, and notes it.
func (l *life) keeps(q api.Request, x api.Answer, was *mirror) {
	l.t.Helper()
	name, _ := was.who(q.Key)
	if name == "" || q.Kind < api.KHold || q.Kind >= api.KShow {
		return
	}
	switch x.Err {
	case api.ErrThrottle, api.ErrDiskFull, api.ErrStale:
		return
	}
	if q.Id < 1 || q.Id > 1<<40 {
		return
	}
	if l.first[name] == nil {
		l.first[name] = map[int]api.Answer{}
	}
	if y, is := l.first[name][q.Id]; is {
		if y != x {
			l.t.Fatalf("T5: %+v: %+v, but first %+v", q, x, y)
		}
		return
	}
	l.first[name][q.Id] = x
	l.lasts[name] = max(l.lasts[name], q.Id)
	if q.Kind == api.KCommit && x.Err == api.OK {
		l.used[name] += q.N
	}
	if q.Kind == api.KHold {
		l.isQuota(q, x, was.accounts[name], was.now)
	}
}

// isQuota holds the first answer to a hold against T4. (One that was cut off, and done, is not new any more.)
func (l *life) isQuota(q api.Request, x api.Answer, a api.Account, now int) {
	l.t.Helper()
	open := 0
	for _, h := range a.Holds {
		if h.Until > now {
			open++
		}
	}
	for _, w := range a.Window {
		if w.Id == q.Id {
			return
		}
	}
	if q.N < 1 || q.N > api.MaxUnits || q.TTL < 1 || q.TTL > api.MaxTTL || open >= api.MaxHolds {
		return
	}
	lacks := leftOf(a, now) < q.N
	if (x.Err == api.ErrQuota) != (lacks && a.Plan.Mode == api.MHard) {
		l.t.Fatalf("T4: %+v: %+v, with %d left in mode %d", q, x, leftOf(a, now), a.Plan.Mode)
	}
}

// ends holds what there is in the end against what was answered on the way.
func (l *life) ends() {
	l.t.Helper()
	l.d.Cut(-1)
	l.deep()
	for _, name := range l.s.Names() {
		a, _ := l.s.Account(name)
		n := a.Over
		for _, x := range a.Lots {
			n += x.Consumed
		}
		from := -1
		for k := 1; k < a.Term; k++ {
			s := l.m.statements[termOf{name, k}]
			n += s.Consumed + s.Over
			if from >= 0 && s.From != from {
				l.t.Fatalf("T6: term %d of %s begins at %d, not at %d", k, name, s.From, from)
			}
			from = s.To
		}
		if n != l.used[name] || from >= 0 && a.From != from {
			l.t.Fatalf("T3: %s has consumed %d, and committed %d; its term begins at %d, the last one ended at %d", name, n, l.used[name], a.From, from)
		}
		isThrottled(l.t, l.passed[name], l.burst, l.rate)
	}
}

// lives is a whole life, as the dice say.
func lives(t testing.TB, d dice, blocks int, modes ...int) *life {
	t.Helper()
	l := begun(t, &d, blocks, modes...)
	for len(d) > 0 {
		l.step(&d)
	}
	l.ends()
	return l
}

// TestP2003Lives: T1 to T7 over lives drawn at random, the power going anywhere, on great disks and on such as are full soon or at once.
func TestP2003Lives(t *testing.T) {
	for seed := range 400 {
		lives(t, thrown(600, uint64(seed)*977+1), []int{900, 400, 150, 110, 95, 80, 70, 64}[seed%8], api.MHard, api.MOver)
	}
}

// TestP2003Long: few, but long ones.
func TestP2003Long(t *testing.T) {
	for seed := range 8 {
		lives(t, thrown(6000, uint64(seed)*31+5), 700, api.MHard, api.MHard, api.MOver)
	}
}

// TestT3Hard: where all plans are hard nothing is ever over.
func TestT3Hard(t *testing.T) {
	for seed := range 60 {
		l := lives(t, thrown(700, uint64(seed)*13+9), 500, api.MHard)
		for name, a := range l.m.accounts {
			if a.Over != 0 {
				t.Fatalf("T3: %s has %d over", name, a.Over)
			}
		}
		for at, s := range l.m.statements {
			if s.Over != 0 {
				t.Fatalf("T3: %v had %d over", at, s.Over)
			}
		}
	}
}

// FuzzLives looks for lives that P2001 to P2003 do not hold for.
func FuzzLives(f *testing.F) {
	f.Add([]byte{}, uint16(100))
	f.Add([]byte(thrown(200, 3)), uint16(64))
	f.Add([]byte(thrown(400, 4)), uint16(120))
	f.Add([]byte(thrown(600, 5)), uint16(500))
	f.Fuzz(func(t *testing.T, b []byte, blocks uint16) {
		lives(t, dice(b[:min(len(b), 1500)]), 64+int(blocks%500), api.MHard, api.MOver)
	})
}
