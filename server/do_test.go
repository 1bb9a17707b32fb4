package server_test

import (
	"testing"

	"toll/api"
)

// TestP2002Example: the chapter's.
func TestP2002Example(t *testing.T) {
	r := cast(t, 600)
	for _, key := range []string{"x", "", "k", "kA", "a", "roo", "root ", "ROOT", longName, "\x00"} {
		r.is(shows(key), no(api.ErrAuth))
		r.is(hold(key, 1, 1), no(api.ErrAuth))
	}
}

// TestP2002Kinds: each kind, asked by whom it is for, by whom it is not, and by nobody, that being told first.
func TestP2002Kinds(t *testing.T) {
	r := cast(t, 600)
	kinds := []int{-1 << 63, -16, 100, 255, 256, 261, 272, 1 << 20, 1<<63 - 1}
	for kind := -2; kind <= 40; kind++ {
		kinds = append(kinds, kind)
	}
	for _, kind := range kinds {
		q := api.Request{Kind: kind, Id: 1, N: 1, TTL: 1, Name: "a"}
		for key, isFor := range map[string]bool{"ka": 1 <= kind && kind <= 5, "root": 16 <= kind && kind <= 20} {
			q.Key = key
			commits := r.s.Commits()
			x, _ := r.do(q)
			if (x.Err == api.ErrKind) == isFor {
				t.Errorf("P2002: kind %d of %s: %+v", kind, key, x)
			}
			if !isFor && r.s.Commits() != commits {
				t.Errorf("P2002: kind %d of %s does something", kind, key)
			}
		}
		q.Key = "nobody"
		r.is(q, no(api.ErrAuth))
	}
	r.whole()
}

// TestP2002KindFirst: a kind that is not for a tenant takes nothing of its bucket.
func TestP2002KindFirst(t *testing.T) {
	r := newRig(t, 300, 0)
	p := byDays("p", 1, 10, 100)
	p.Burst, p.Rate = 1, 1
	r.did(adds(p))
	r.did(tenant("a", "ka", "p", 1))
	r.is(api.Request{Kind: api.KClose, Key: "ka", N: 1}, no(api.ErrKind))
	r.ticks(1)
	for kind := range 30 {
		if kind < api.KHold || kind > api.KShow {
			r.is(api.Request{Kind: kind, Key: "ka"}, no(api.ErrKind))
		}
	}
	r.is(shows("ka"), api.Answer{Left: 100})
	r.is(shows("ka"), no(api.ErrThrottle))
	r.is(api.Request{Kind: api.KClose, Key: "ka", N: 1}, no(api.ErrKind))
}

// TestP2002Tenant: each kind of a tenant's, worked out by hand, and each sent again.
func TestP2002Tenant(t *testing.T) {
	r := cast(t, 600)
	again := func(q api.Request, want api.Answer) {
		t.Helper()
		r.is(q, want)
		commits := r.s.Commits()
		a := r.m.accounts["a"]
		r.is(q, want)
		other := q
		other.N, other.TTL, other.Of = 77, 3, 0
		r.is(other, want)
		other.Kind = api.KPack
		r.is(other, want)
		if r.s.Commits() != commits || len(r.m.accounts["a"].Window) != len(a.Window) {
			t.Errorf("T5: %+v was done twice", q)
		}
		r.whole()
	}
	again(hold("ka", 1, 30), api.Answer{Left: 70, N: 30})
	again(hold("ka", 2, 71), no(api.ErrQuota))
	again(commit("ka", 3, 1, 31), no(api.ErrArg))
	again(commit("ka", 4, 9, 1), no(api.ErrNone))
	again(commit("ka", 5, 1, 20), api.Answer{Left: 80, N: 20})
	again(hold("ka", 6, 80), api.Answer{N: 80})
	again(release("ka", 7, 6), api.Answer{Left: 80, N: 80})
	again(release("ka", 8, 6), no(api.ErrNone))
	again(pack("ka", 9, 5, 100), api.Answer{Left: 85, N: 2})
	again(pack("ka", 10, 0, 100), no(api.ErrArg))
	again(hold("ka", 11, 0), no(api.ErrArg))
	r.is(shows("ka"), api.Answer{Left: 85})
	for _, id := range []int{0, -1, 1<<40 + 1, -1 << 63, 1<<63 - 1} {
		r.is(hold("ka", id, 1), no(api.ErrArg))
	}
	again(hold("ka", 1<<40, 1), api.Answer{Left: 84, N: 1})
	r.is(hold("ka", 1, 1), api.Answer{Left: 70, N: 30})
	again(hold("ka", 12, 1), api.Answer{Left: 83, N: 1})
	r.is(hold("ka", 1, 1), no(api.ErrStale))
	r.is(commit("ka", 1, 12, 1), no(api.ErrStale))
	r.is(hold("ka", 2, 1), no(api.ErrQuota))
	r.is(shows("kb"), api.Answer{Left: 100})
	r.deep()
	r.opens("root", 20)
	r.ticks(21)
	r.is(hold("ka", 1, 1), no(api.ErrStale))
	r.is(hold("ka", 2, 1), no(api.ErrQuota))
	r.is(pack("ka", 9, 5, 100), api.Answer{Left: 85, N: 2})
}

// TestP2002Time: a tenant's request is done at Now(): a hold is due then, a pack is over then.
func TestP2002Time(t *testing.T) {
	r := cast(t, 600)
	r.is(api.Request{Kind: api.KHold, Key: "ka", Id: 1, N: 40, TTL: 5}, api.Answer{Left: 60, N: 40})
	r.is(pack("ka", 2, 7, 9), api.Answer{Left: 67, N: 2})
	r.ticks(14)
	r.is(shows("ka"), api.Answer{Left: 67})
	r.ticks(15)
	r.is(shows("ka"), api.Answer{Left: 107})
	r.is(commit("ka", 3, 1, 1), no(api.ErrNone))
	r.ticks(18)
	r.is(shows("ka"), api.Answer{Left: 107})
	r.ticks(19)
	r.is(shows("ka"), api.Answer{Left: 100})
	r.ticks(10 * day)
	r.is(shows("ka"), api.Answer{})
}

// TestP2002Over: in over mode what no lot has is counted as over.
func TestP2002Over(t *testing.T) {
	r := cast(t, 600)
	r.is(change("d", "q", 2), told(60))
	r.is(hold("kd", 1, 100), api.Answer{N: 60})
	r.is(commit("kd", 2, 1, 90), api.Answer{Over: 30, N: 90})
	r.is(shows("kd"), api.Answer{Over: 30})
	r.ticks(3 * day)
	r.is(closes(1), atEnd(1))
	r.is(terms("d", 1), api.Answer{Statement: api.Statement{Name: "d", Term: 1, To: 3, Granted: 110, Consumed: 60, Expired: 50, Over: 30}})
	r.is(shows("kd"), api.Answer{Left: 60})
}

// TestP2002Throttle: what is throttled is neither done nor recorded: sent again later it is done. All others count, whatever they are answered.
func TestP2002Throttle(t *testing.T) {
	r := newRig(t, 600, 0)
	p := byDays("p", 1, 10, 100)
	p.Burst, p.Rate = 4, 1
	r.did(adds(p))
	r.did(tenant("a", "ka", "p", 1))
	r.did(tenant("b", "kb", "p", 1))
	r.ticks(10)
	r.is(hold("ka", 1, 5), api.Answer{Left: 95, N: 5})
	r.is(hold("ka", 1, 5), api.Answer{Left: 95, N: 5})
	r.is(hold("ka", 0, 5), no(api.ErrArg))
	r.is(hold("ka", 2, 500), no(api.ErrQuota))
	commits := r.s.Commits()
	for _, q := range []api.Request{hold("ka", 3, 5), hold("ka", 1, 5), hold("ka", 0, 5), commit("ka", 3, 1, 1), release("ka", 3, 1), pack("ka", 3, 1, 1), shows("ka")} {
		r.is(q, no(api.ErrThrottle))
	}
	if a, _ := r.s.Account("a"); r.s.Commits() != commits || len(a.Window) != 2 || len(a.Holds) != 1 {
		t.Errorf("P2002: a request that was throttled did something: %+v", a)
	}
	r.is(shows("kb"), api.Answer{Left: 100})
	r.ticks(11)
	r.is(hold("ka", 3, 5), api.Answer{Left: 90, N: 5})
	r.is(hold("ka", 4, 5), no(api.ErrThrottle))
	r.ticks(12)
	r.is(hold("ka", 3, 5), api.Answer{Left: 90, N: 5})
	r.ticks(13)
	r.is(commit("ka", 4, 3, 5), api.Answer{Left: 90, N: 5})
	r.whole()
}

// TestP2002Window: numbers come in any order, the twelve greatest are known.
func TestP2002Window(t *testing.T) {
	r := cast(t, 600)
	for i := range 30 {
		id := 3 * (i*7%30 + 1)
		q := hold("kb", id, 200)
		if i%3 == 0 {
			q = pack("kb", id, 1, 1)
		}
		r.do(q)
		r.do(q)
	}
	for id := range 100 {
		r.do(pack("kb", id, 1, 1))
		r.do(pack("kb", id, 2, 1))
	}
	r.deep()
}

// TestP2002Quota: T4, at each count of units.
func TestP2002Quota(t *testing.T) {
	r := cast(t, 600)
	r.did(pack("ka", 1, 7, 1000))
	r.did(hold("ka", 2, 90))
	for n := 14; n < 21; n++ {
		c := r.copy()
		c.ticks(11)
		want := no(api.ErrQuota)
		if n <= 17 {
			want = api.Answer{Left: 17 - n, N: n}
		}
		c.is(hold("ka", 3, n), want)
	}
}
