package server_test

import (
	"fmt"
	"testing"

	"toll/api"
)

// TestP2002Plan: each error, in order, and its Version.
func TestP2002Plan(t *testing.T) {
	r := newRig(t, 600, 0)
	good := byDays("p", 1, 10, 100)
	bad := func(spoil func(p *api.Plan)) api.Request {
		p := good
		spoil(&p)
		return adds(p)
	}
	for _, q := range []api.Request{
		{Kind: api.KPlan, Key: "root"},
		bad(func(p *api.Plan) { p.Name = "" }),
		bad(func(p *api.Plan) { p.Name = "P" }),
		bad(func(p *api.Plan) { p.Name = longName + "z" }),
		bad(func(p *api.Plan) { p.Version = 0 }),
		bad(func(p *api.Plan) { p.Version = -1 }),
		bad(func(p *api.Plan) { p.Version = 2 }),
		bad(func(p *api.Plan) { p.Version = 1000001 }),
		bad(func(p *api.Plan) { p.Allowance = -1 }),
		bad(func(p *api.Plan) { p.Kind = 2 }),
		bad(func(p *api.Plan) { p.Anchor = 1 }),
		bad(func(p *api.Plan) { p.Days = 0 }),
		bad(func(p *api.Plan) { p.Cap = 1000000001 }),
		bad(func(p *api.Plan) { p.Mode = 2 }),
		bad(func(p *api.Plan) { p.Burst = 0 }),
		bad(func(p *api.Plan) { p.Rate = 1001 }),
	} {
		r.is(q, no(api.ErrArg))
	}
	if r.s.Commits() != 0 {
		t.Errorf("P2002: %d transactions", r.s.Commits())
	}
	r.is(adds(good), told(1))
	r.is(adds(good), no(api.ErrIs))
	r.is(bad(func(p *api.Plan) { p.Allowance = 5 }), no(api.ErrIs))
	r.is(bad(func(p *api.Plan) { p.Burst = 0 }), no(api.ErrArg))
	r.is(bad(func(p *api.Plan) { p.Version = 3 }), no(api.ErrArg))
	r.is(bad(func(p *api.Plan) { p.Version = 2 }), told(2))
	r.is(bad(func(p *api.Plan) { p.Version = 1 }), no(api.ErrIs))
	r.is(bad(func(p *api.Plan) { p.Version = 3 }), told(3))
	r.deep()
	for n := 1; n < 32; n++ {
		r.is(adds(byDays(some("p", n), 1, 10, 100)), told(1))
	}
	r.is(adds(byDays("q", 1, 10, 100)), no(api.ErrMany))
	r.is(adds(byDays("q", 2, 10, 100)), no(api.ErrArg))
	r.is(adds(byDays("p", 4, 10, 100)), told(4))
	r.is(adds(byDays("p31", 1, 10, 100)), no(api.ErrIs))
	r.deep()
}

// TestP2002Tenants: each error, in order: where one is told, those behind it apply as well.
func TestP2002Tenants(t *testing.T) {
	r := cast(t, 600)
	commits := r.s.Commits()
	for _, name := range badNames {
		r.is(tenant(name, "ke", "p", 1), no(api.ErrArg))
		r.is(tenant("e", name, "p", 1), no(api.ErrArg))
		r.is(tenant(name, "root", "none", 9), no(api.ErrArg))
		r.is(tenant("a", name, "none", 9), no(api.ErrArg))
	}
	for _, q := range []api.Request{
		tenant("a", "ke", "p", 1), tenant("a", "ke", "none", 1), tenant("a", "ka", "p", 1),
		tenant("e", "ka", "p", 1), tenant("e", "kd", "none", 1), tenant("e", "root", "p", 1), tenant("e", "root", "p", 0),
	} {
		r.is(q, no(api.ErrIs))
	}
	for _, q := range []api.Request{
		tenant("e", "ke", "none", 1), tenant("e", "ke", "p", 0), tenant("e", "ke", "p", 2), tenant("e", "ke", "p", -1),
		tenant("e", "ke", "", 1), tenant("e", "ke", "P", 1), tenant("e", "ke", "p", 1<<40), tenant("e", "ke", "q", 3),
	} {
		r.is(q, no(api.ErrNone))
	}
	if r.s.Commits() != commits {
		t.Errorf("P2002: %d transactions", r.s.Commits()-commits)
	}
	r.is(shows("ke"), no(api.ErrAuth))
	q := tenant("e", "ke", "q", 2)
	q.Plan.Burst, q.Plan.Allowance, q.N, q.Id = -5, -5, -5, -5 // not asked for
	r.is(q, told(1))
	r.is(q, no(api.ErrIs))
	r.is(shows("ke"), no(api.ErrThrottle))
	r.ticks(11)
	r.is(shows("ke"), api.Answer{Left: 60})
	r.is(tenant("f", "e", "p", 1), told(1)) // a name may be a key
	r.is(tenant("kf", "f", "p", 1), told(1))
	r.deep()
}

// TestP2002Account: the account of a tenant that comes is account.New's at Now().
func TestP2002Account(t *testing.T) {
	r := newRig(t, 600, 0)
	months := api.Plan{Name: "m", Version: 1, Allowance: 300, Kind: api.TMonth, Anchor: 1, Cap: 5, Burst: 3, Rate: 1}
	r.did(adds(months))
	r.ticks(19458*day + 77)
	r.is(tenant("a", "ka", "m", 1), told(1))
	a, is := r.s.Account("a")
	lot := api.Lot{Id: 1, From: 19458 * day, Until: 19478 * day, Granted: 200}
	if !is || a.Plan != months || a.Term != 1 || a.From != 19458 || a.To != 19478 || a.Next != 2 || len(a.Lots) != 1 || a.Lots[0] != lot || a.Key != "ka" {
		t.Errorf("P2002: %+v", a)
	}
	r.ticks(last)
	r.is(tenant("b", "kb", "m", 1), told(1))
	r.deep()
}

// TestP2002Bucket: the bucket of a tenant that comes is new at Now(), not at the opening's tick.
func TestP2002Bucket(t *testing.T) {
	r := newRig(t, 300, 0)
	p := byDays("p", 1, 10, 100)
	p.Burst, p.Rate = 9, 2
	r.did(adds(p))
	r.ticks(50)
	r.did(tenant("a", "ka", "p", 1))
	r.is(shows("ka"), no(api.ErrThrottle))
	r.ticks(51)
	r.is(shows("ka"), api.Answer{Left: 100})
	r.is(shows("ka"), api.Answer{Left: 100})
	r.is(shows("ka"), no(api.ErrThrottle))
}

// TestP2002Many: there are 256 tenants at most; ErrMany is told behind the others.
func TestP2002Many(t *testing.T) {
	r := newRig(t, 4096, 0)
	r.did(adds(byDays("p", 1, 10, 100)))
	for n := range 256 {
		r.is(tenant(some("t", n), some("k", n), "p", 1), told(1))
		if n == 254 {
			r.opens("root", 0)
		}
	}
	r.is(tenant("more", "kmore", "p", 1), no(api.ErrMany))
	r.is(tenant("more", "kmore", "p", 2), no(api.ErrNone))
	r.is(tenant("more", "k7", "p", 1), no(api.ErrIs))
	r.is(tenant("t255", "kmore", "p", 1), no(api.ErrIs))
	r.is(tenant("More", "kmore", "p", 1), no(api.ErrArg))
	r.opens("root", 0)
	r.is(tenant("more", "kmore", "p", 1), no(api.ErrMany))
	r.is(shows("kmore"), no(api.ErrAuth))
	r.ticks(10 * day)
	r.is(shows("k255"), api.Answer{})
	r.is(closes(100), told(100))
	r.is(closes(100), told(100))
	r.is(closes(56), atEnd(56))
	r.is(closes(56), atEnd(0))
	r.deep()
}

// TestP2002Change: each error, in order; what the new lot was Granted.
func TestP2002Change(t *testing.T) {
	r := cast(t, 600)
	for _, q := range []api.Request{
		change("x", "p", 1), change("", "p", 1), change("A", "p", 1), change("a", "none", 1), change("a", "p", 2),
		change("a", "p", 0), change("a", "", 1), change("x", "none", 1), change("ka", "p", 1),
	} {
		r.is(q, no(api.ErrNone))
	}
	r.did(hold("ka", 1, 30))
	r.did(commit("ka", 2, 1, 20))
	r.ticks(4*day + 5)
	r.is(change("a", "q", 2), told(36)) // 60 of 6 days of 10
	a, _ := r.s.Account("a")
	lots := []api.Lot{{Id: 1, Until: 10 * day, Granted: 100, Consumed: 20, Expired: 80}, {Id: 2, From: 4*day + 5, Until: 10 * day, Granted: 36}}
	if len(a.Lots) != 2 || a.Lots[0] != lots[0] || a.Lots[1] != lots[1] || a.Plan.Name != "q" || a.Plan.Version != 2 || a.To != 10 {
		t.Errorf("P2002: %+v", a)
	}
	r.is(shows("ka"), api.Answer{Left: 36})
	r.is(change("a", "p", 1), told(60))
	r.is(shows("ka"), api.Answer{Left: 60})
	for i := 3; i < 12; i++ {
		r.did(pack("ka", i, 1, 100000))
	}
	r.is(change("a", "p", 1), no(api.ErrMany))
	r.is(change("a", "p", 2), no(api.ErrNone))
	r.ticks(10*day - 1)
	r.is(change("b", "p", 1), told(10))
	r.is(change("a", "p", 1), no(api.ErrMany))
	r.ticks(10 * day)
	r.is(change("a", "p", 1), no(api.ErrOver))
	r.is(change("b", "p", 1), no(api.ErrOver))
	r.is(change("b", "p", 5), no(api.ErrNone))
	r.is(closes(100), atEnd(6))
	r.deep()
}

// TestP2002None: a plan without units grants none.
func TestP2002None(t *testing.T) {
	r := cast(t, 600)
	r.did(adds(byDays("none", 1, 5, 0)))
	r.is(change("a", "none", 1), told(0))
	r.is(shows("ka"), api.Answer{})
	r.is(tenant("e", "ke", "none", 1), told(1))
}

// TestP2002Set: at a change the bucket keeps what it has by the elder plan, the new burst at most, and goes on by the new one.
func TestP2002Set(t *testing.T) {
	r := newRig(t, 600, 0)
	for i, p := range [][2]int{{10, 3}, {4, 1}, {50, 20}} {
		x := byDays("p", i+1, 10, 100)
		x.Burst, x.Rate = p[0], p[1]
		r.did(adds(x))
	}
	r.did(tenant("a", "ka", "p", 1))
	passes := func(many int) {
		t.Helper()
		c := r.s.Commits()
		for range many {
			if x, _ := r.do(shows("ka")); x.Err != api.OK {
				t.Fatalf("P2002: %+v", x)
			}
		}
		r.is(shows("ka"), no(api.ErrThrottle))
		if r.s.Commits() != c {
			t.Errorf("P2002: to show is put")
		}
	}
	r.ticks(3) // it has 9
	r.did(change("a", "p", 2))
	passes(4)
	r.did(change("a", "p", 3))
	passes(0)
	r.ticks(4)
	passes(20)
	r.ticks(14) // it has 50
	r.did(change("a", "p", 1))
	passes(10)
	r.ticks(15)
	r.did(change("a", "p", 3)) // it has 3
	r.ticks(16)
	passes(23)
	r.ticks(17)
	r.is(change("a", "p", 4), no(api.ErrNone))
	passes(20)
}

// TestP2002Terms: a term that was closed, one that was not, a name that is nobody's.
func TestP2002Terms(t *testing.T) {
	r := cast(t, 600)
	r.did(hold("ka", 1, 30))
	r.did(commit("ka", 2, 1, 20))
	r.is(terms("a", 1), no(api.ErrNone))
	r.ticks(10 * day)
	r.is(closes(100), api.Answer{N: 6, Left: 1})
	r.is(terms("a", 1), api.Answer{Statement: api.Statement{Name: "a", Term: 1, To: 10, Granted: 100, Consumed: 20, Expired: 47, Rolled: 33}})
	r.is(terms("d", 3), api.Answer{Statement: api.Statement{Name: "d", Term: 3, From: 6, To: 9, Granted: 66, Expired: 50, Rolled: 16}})
	for _, n := range []int{0, 2, -1, -1 << 63, 1<<63 - 1, 1 << 40, 1<<40 + 1} {
		r.is(terms("a", n), no(api.ErrNone))
	}
	for _, name := range append([]string{"x", "ka", "root"}, badNames...) {
		r.is(terms(name, 1), no(api.ErrNone))
	}
	r.opens("root", 10*day)
	r.is(terms("b", 1), api.Answer{Statement: api.Statement{Name: "b", Term: 1, To: 10, Granted: 100, Expired: 67, Rolled: 33}})
}

// TestP2002Fields: what a kind does not ask for changes nothing.
func TestP2002Fields(t *testing.T) {
	plain, loud := cast(t, 600), cast(t, 600)
	p := byDays("r", 1, 7, 70)
	for _, q := range []api.Request{
		adds(p), tenant("e", "ke", "r", 1), change("a", "r", 1), closes(3), terms("a", 1),
		hold("ka", 1, 5), commit("kb", 1, 1, 1), release("kc", 1, 1), pack("kd", 1, 5, 5), shows("kb"),
	} {
		x, _ := plain.do(q)
		l := q
		if q.Kind != api.KTenant && q.Kind != api.KChange && q.Kind != api.KPlan {
			l.Plan = api.Plan{Name: "\xff", Version: -1, Rate: 1 << 60}
		}
		if q.Kind != api.KTenant {
			l.Secret = "root"
		}
		if q.Kind < api.KTenant {
			l.Name = "b"
		}
		if q.Kind >= api.KPlan {
			l.Id, l.TTL, l.Of = -1, -1, -1
		}
		if y, _ := loud.do(l); y != x {
			t.Errorf("P2002: %+v: %+v, but %+v: %+v", q, x, l, y)
		}
	}
	if fmt.Sprint(plain.m.accounts) != fmt.Sprint(loud.m.accounts) {
		t.Errorf("P2002: %v, %v", plain.m.accounts, loud.m.accounts)
	}
	plain.deep()
	loud.deep()
}
