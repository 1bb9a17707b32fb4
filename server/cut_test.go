package server_test

import (
	"fmt"
	"testing"

	"toll/api"
)

// busy is a rig with something of everything.
func busy(t testing.TB, blocks int) *rig {
	t.Helper()
	r := owed(t, blocks)
	r.did(closes(3))
	r.did(tenant("new", "knew", "q", 2))
	r.ticks(33*day + 5)
	r.did(hold("knew", 5, 9))
	for n := range 9 {
		r.do(pack("knew", 10+n, 3, 9000))
	}
	return r
}

// cuttable are requests that write, of each kind those that make little and those that make much.
func cuttable() map[string]api.Request {
	return map[string]api.Request{
		"KHold":              hold("knew", 30, 8),
		"KHold, refused":     hold("ka", 30, 8000000),
		"KCommit":            commit("knew", 30, 5, 4),
		"KCommit, of none":   commit("knew", 30, 99, 4),
		"KRelease":           release("knew", 30, 5),
		"KPack":              pack("knew", 30, 7, 70),
		"KPack, of none":     pack("ka", 30, 0, 0),
		"KPlan, new":         adds(byDays("r", 1, 7, 70)),
		"KPlan, next":        adds(byDays("p", 2, 7, 70)),
		"KTenant":            tenant("newer", "knewer", "m", 1),
		"KChange":            change("new", "p", 1),
		"KClose of one term": closes(1),
		"KClose of four":     closes(4),
		"KClose to its end":  closes(100),
	}
}

// TestT2Cuts lets the power go at each write of each request, and of the opening behind it: what is there then is some front of its transactions, whole; sent again it is done, or was.
func TestT2Cuts(t *testing.T) {
	first := busy(t, 900)
	for what, q := range cuttable() {
		fronts := map[int]bool{}
		cuts := 0
		for ; ; cuts++ {
			r := first.copy()
			r.ticks(first.m.now + 1)
			r.d.Cut(cuts)
			x, e := r.do(q)
			if e == api.OK {
				fronts[r.s.Commits()-first.m.commits] = true
				r.d.Start()
				r.deep()
				break
			}
			if e != api.ErrDead || x != (api.Answer{}) {
				t.Fatalf("P2002: %s, cut off behind %d writes: %+v, %v", what, cuts, x, e)
			}
			fronts[goesOn(r, q)-first.m.commits] = true
		}
		if cuts < 2 || !fronts[0] || !fronts[1] {
			t.Errorf("T2: %s has %d writes, and was cut off behind transactions %v", what, cuts, fronts)
		}
	}
}

// goesOn starts a disk whose power went within a request, sends it again, and more; it tells how many transactions there were behind the cut.
func goesOn(r *rig, q api.Request) int {
	r.t.Helper()
	for _, other := range []api.Request{q, shows("nobody"), shows("root"), closes(0), terms("a", 1), shows("ka")} {
		r.do(other)
	}
	now := r.m.now
	r.d.Start() // the power is there, but the server's is gone
	r.do(q)
	r.do(shows("nobody"))
	r.starts(now)
	commits := r.s.Commits()
	r.ticks(now + 3)
	r.do(q)
	r.do(q)
	r.did(adds(byDays("behind", 1, 7, 70)))
	r.deep()
	return commits
}

// TestT2Dead: the power goes between two requests: each is answered ErrDead, ahead of any other error, till the server is opened again.
func TestT2Dead(t *testing.T) {
	r := busy(t, 900)
	kill(r.d)
	for kind := -1; kind < 30; kind++ {
		for _, key := range []string{"root", "ka", "nobody", ""} {
			r.do(api.Request{Kind: kind, Key: key, Id: 40, N: 1, TTL: 1, Name: "a", Secret: "a"})
		}
	}
	r.starts(r.m.now)
	r.ticks(r.m.now + 1)
	r.did(shows("ka"))
	r.deep()
}

// TestT2Quiet: a power that goes and comes between two requests is not seen.
func TestT2Quiet(t *testing.T) {
	r := busy(t, 900)
	kill(r.d)
	r.d.Start()
	r.did(pack("ka", 50, 4, 4))
	r.d.Cut(0)
	r.did(shows("ka")) // it writes nothing
	r.is(shows("nobody"), no(api.ErrAuth))
	r.is(closes(0), no(api.ErrArg))
	r.d.Cut(-1)
	r.did(pack("ka", 51, 4, 4))
	r.deep()
}

// TestT5Cuts: a tenant's request that is cut off at each write, and sent again and again, across openings, takes effect once, and is answered alike.
func TestT5Cuts(t *testing.T) {
	first := busy(t, 900)
	for _, q := range []api.Request{hold("knew", 30, 8), commit("knew", 30, 5, 4), release("knew", 30, 5), pack("knew", 30, 7, 70)} {
		one := first.copy()
		one.ticks(first.m.now + 1)
		want := one.did(q)
		for cut := 0; ; cut++ {
			r := first.copy()
			r.ticks(first.m.now + 1)
			r.d.Cut(cut)
			_, e := r.do(q)
			if e == api.OK {
				break
			}
			r.starts(first.m.now)
			r.ticks(first.m.now + 1)
			for range 3 {
				if x := r.did(q); x != want {
					t.Fatalf("T5: %+v, cut off behind %d writes: %+v, not %+v", q, cut, x, want)
				}
				r.opens("root", r.m.now)
				r.ticks(r.m.now + 1)
			}
			r.sameAs(one, fmt.Sprintf("%+v, cut off behind %d writes", q, cut))
		}
	}
}

// TestT7Crashes: opened again and again at one tick, or from tick to tick, no more requests pass than the rate brings.
func TestT7Crashes(t *testing.T) {
	r := newRig(t, 300, 0)
	p := byDays("p", 1, 10, 100)
	p.Burst, p.Rate = 6, 3
	r.did(adds(p))
	r.did(tenant("a", "ka", "p", 1))
	for round := range 60 {
		for range 5 {
			for range 9 {
				r.do(shows("ka"))
			}
			if round%2 == 0 {
				r.opens("root", r.m.now)
			} else {
				kill(r.d)
				r.starts(r.m.now)
			}
		}
		r.ticks(r.m.now + round%4)
	}
	isThrottled(t, r.passed["a"], 6, 3)
	if n := len(r.passed["a"]); n < 60 {
		t.Errorf("T7: %d passed", n)
	}
}

// isThrottled holds the ticks of requests that passed to T7: of any two ticks at most the burst and the rate for each tick lie between, the later one's too.
func isThrottled(t testing.TB, passed []int, burst, rate int) {
	t.Helper()
	for i, from := range passed {
		for k := i; k < len(passed); k++ { // those of i to k lie behind from - 1
			if ticks := passed[k] - from + 1; k-i+1 > burst+rate*ticks {
				t.Fatalf("T7: %d passed between %d and %d, of burst %d and rate %d", k-i+1, from-1, passed[k], burst, rate)
			}
		}
	}
}
