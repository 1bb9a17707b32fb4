package server_test

import (
	"slices"
	"testing"

	"toll/api"
	"toll/book"
	"toll/server"
)

// TestP2001Refused: an admin that is no name, a tick that is none, a disk that is too small, one whose power is gone; what may not be is told ahead of the disk's fault.
func TestP2001Refused(t *testing.T) {
	d, small, dead := newDisk(t, 100), newDisk(t, 63), newDisk(t, 100)
	kill(dead)
	refuses := func(s *server.Server, e, want api.Errno) {
		t.Helper()
		if s != nil || e != want {
			t.Errorf("P2001: Open: %v, not %v", e, want)
		}
	}
	for _, name := range badNames {
		s, e := server.Open(d, name, 0)
		refuses(s, e, api.ErrArg)
		s, e = server.Open(dead, name, 0)
		refuses(s, e, api.ErrArg)
	}
	for _, now := range []int{-1, -1 << 63, last + 1, 1<<63 - 1} {
		s, e := server.Open(d, "root", now)
		refuses(s, e, api.ErrArg)
		s, e = server.Open(dead, "root", now)
		refuses(s, e, api.ErrArg)
	}
	s, e := server.Open(small, "root", 0)
	refuses(s, e, api.ErrArg)
	s, e = server.Open(dead, "root", 0)
	refuses(s, e, api.ErrDead)
	if d.Writes() != 0 {
		t.Errorf("P5: Open was refused, and there are %d writes", d.Writes())
	}
}

// TestP2001New: what a server on a new disk shows, at the edges of time and of names, and on the smallest disk.
func TestP2001New(t *testing.T) {
	for _, now := range []int{0, 1, day, last - 1, last} {
		for _, admin := range []string{"r", "-", longName, "root"} {
			d := newDisk(t, 64)
			s := opened(t, d, admin, now)
			if s.Now() != now || len(s.Names()) != 0 || s.Commits() != 0 {
				t.Errorf("P2001: Now() %d, not %d; Names() %q; Commits() %d", s.Now(), now, s.Names(), s.Commits())
			}
			b, _ := book.Open(copyOf(t, d))
			if s.Left() != b.Left() {
				t.Errorf("P2001: Left() %d, the book's %d", s.Left(), b.Left())
			}
			for _, key := range []string{admin, admin + "x", ""} {
				want := no(api.ErrAuth)
				if key == admin {
					want = no(api.ErrKind)
				}
				if x, e := s.Do(shows(key)); x != want || e != api.OK {
					t.Errorf("P2001: the admin is %q; asked by %q: %+v, %v", admin, key, x, e)
				}
			}
		}
	}
}

// TestP2001Tick: a lesser tick and one that is none are refused, and the time stays; the same one is not.
func TestP2001Tick(t *testing.T) {
	r := newRig(t, 100, 50)
	for _, now := range []int{49, 0, -1, -1 << 63, last + 1, 1<<63 - 1} {
		if e := r.ticks(now); e != api.ErrArg || r.s.Now() != 50 {
			t.Errorf("P2001: Tick(%d): %v, Now() %d", now, e, r.s.Now())
		}
	}
	for _, now := range []int{50, 51, 51, 9 * day, last - 1, last, last} {
		if e := r.ticks(now); e != api.OK || r.s.Now() != now {
			t.Errorf("P2001: Tick(%d): %v, Now() %d", now, e, r.s.Now())
		}
	}
	if e := r.ticks(last - 1); e != api.ErrArg || r.s.Now() != last {
		t.Errorf("P2001: Tick of a lesser one: %v, Now() %d", e, r.s.Now())
	}
}

// TestP2001Dead: the time goes on without the power.
func TestP2001Dead(t *testing.T) {
	r := newRig(t, 100, 5)
	kill(r.d)
	if e := r.ticks(9); e != api.OK {
		t.Errorf("P2001: Tick: %v", e)
	}
	if e := r.ticks(8); e != api.ErrArg {
		t.Errorf("P2001: Tick of a lesser one: %v", e)
	}
	r.do(shows("nobody"))
}

// TestP2001Shows: Account, Names, Left and Commits are the book's.
func TestP2001Shows(t *testing.T) {
	r := cast(t, 600)
	r.deep()
	r.did(hold("ka", 1, 30))
	r.did(commit("ka", 2, 1, 20))
	r.did(pack("kb", 1, 5, 99))
	r.deep()
	if !slices.Equal(r.s.Names(), []string{"a", "b", "c", "d"}) || r.s.Commits() != 10 {
		t.Errorf("P2001: %q, %d", r.s.Names(), r.s.Commits())
	}
	a, is := r.s.Account("a")
	if !is || a.Key != "ka" || a.Lots[0].Consumed != 20 || len(a.Window) != 2 {
		t.Errorf("P2001: %+v, %t", a, is)
	}
	r.opens("root", 10)
	r.deep()
}

// TestP2001Keys: opened again all tenants' keys are known, and a tenant's key that is the admin's now is passed over: it is the admin's alone.
func TestP2001Keys(t *testing.T) {
	r := cast(t, 600)
	r.opens("root", 20)
	r.ticks(21)
	for _, name := range []string{"a", "b", "c"} {
		r.is(shows("k"+name), api.Answer{Left: 100})
	}
	r.is(shows("kd"), api.Answer{Left: 50})
	r.opens("kb", 30)
	r.ticks(31)
	r.is(shows("kb"), no(api.ErrKind))
	r.is(shows("root"), no(api.ErrAuth))
	r.is(closes(1), no(api.ErrAuth))
	r.is(shows("ka"), api.Answer{Left: 100})
	r.is(api.Request{Kind: api.KClose, Key: "kb", N: 1}, atEnd(0))
	asAdmin := func(q api.Request) api.Request {
		q.Key = "kb"
		return q
	}
	r.is(asAdmin(tenant("e", "kb", "p", 1)), no(api.ErrIs))
	r.is(asAdmin(tenant("b", "kx", "p", 1)), no(api.ErrIs))
	r.is(asAdmin(tenant("e", "root", "p", 1)), told(1))
	r.is(asAdmin(change("b", "q", 1)), told(50))
	r.whole()
	r.opens("root", 40)
	r.ticks(41)
	r.is(shows("kb"), api.Answer{Left: 50})
	r.is(shows("root"), no(api.ErrKind))
	r.is(tenant("f", "root", "p", 1), no(api.ErrIs))
	r.is(tenant("e", "kf", "p", 1), no(api.ErrIs))
	r.opens("nobody", 50)
	r.ticks(51)
	r.is(shows("root"), api.Answer{Left: 100})
	r.deep()
}

// TestP2001Buckets: opened again each bucket begins anew, at that tick, by the plan that the tenant has.
func TestP2001Buckets(t *testing.T) {
	r := newRig(t, 600, 0)
	slow := byDays("p", 1, 10, 100)
	slow.Burst, slow.Rate = 5, 2
	quick := byDays("p", 2, 10, 100)
	quick.Burst, quick.Rate = 9, 7
	r.did(adds(slow))
	r.did(adds(quick))
	r.did(tenant("a", "ka", "p", 1))
	r.did(tenant("b", "kb", "p", 2))
	passes := func(key string, many int) {
		t.Helper()
		for range many {
			r.is(shows(key), api.Answer{Left: 100})
		}
		r.is(shows(key), no(api.ErrThrottle))
	}
	passes("ka", 0)
	passes("kb", 0)
	r.ticks(100)
	passes("ka", 5)
	passes("kb", 9)
	r.ticks(200)
	r.opens("root", 200)
	passes("ka", 0)
	passes("kb", 0)
	r.ticks(201)
	passes("ka", 2)
	r.opens("root", 300)
	passes("ka", 0)
	r.ticks(302)
	passes("ka", 4)
	passes("kb", 9)
	r.did(change("a", "p", 2))
	r.opens("root", 400)
	passes("ka", 0)
	r.ticks(401)
	passes("ka", 7)
	r.ticks(500)
	passes("ka", 9)
}

// TestP2001None: a bucket of no rate never has one.
func TestP2001None(t *testing.T) {
	r := newRig(t, 300, 0)
	p := byDays("p", 1, 10, 100)
	p.Rate = 0
	r.did(adds(p))
	r.did(tenant("a", "ka", "p", 1))
	for _, now := range []int{0, 1, day, last} {
		r.ticks(now)
		r.is(shows("ka"), no(api.ErrThrottle))
	}
}
