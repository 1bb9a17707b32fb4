package server_test

import (
	"testing"

	"toll/api"
	"toll/server"
)

// fills adds versions of a plan till there is no room for one more.
func (r *rig) fills() {
	r.t.Helper()
	for n := len(r.m.plans["fill"]) + 1; ; n++ {
		x, _ := r.do(adds(byDays("fill", n, 1, n)))
		if x.Err == api.ErrDiskFull {
			break
		}
		if x.Err != api.OK {
			r.t.Fatalf("P2002: %+v", x)
		}
	}
	if r.s.Left() >= bound {
		r.t.Fatalf("P2002: ErrDiskFull with %d pages", r.s.Left())
	}
}

// TestP2002Full: where there is no room all that would be recorded is answered ErrDiskFull, behind all other errors, and nothing is done; all else is answered as ever.
func TestP2002Full(t *testing.T) {
	r := cast(t, 260)
	r.did(hold("ka", 1, 30))
	r.did(hold("ka", 2, 1))
	r.fills()
	was := r.m
	full := no(api.ErrDiskFull)
	none := func(want api.Answer, all ...api.Request) {
		t.Helper()
		for _, q := range all {
			r.is(q, want)
		}
	}
	none(full, hold("ka", 3, 5), hold("ka", 3, 500), hold("ka", 3, 0), commit("ka", 3, 1, 5), commit("ka", 3, 9, 5), release("ka", 3, 1), pack("ka", 3, 5, 5), pack("ka", 3, 0, 0))
	none(no(api.ErrArg), hold("ka", 0, 5), commit("ka", -1, 1, 5), pack("ka", 1<<40+1, 5, 5))
	r.is(hold("ka", 1, 30), api.Answer{Left: 70, N: 30})
	r.is(shows("ka"), api.Answer{Left: 69})
	none(full, adds(byDays("new", 1, 5, 5)), adds(byDays("p", 2, 5, 5)))
	none(no(api.ErrArg), adds(byDays("new", 2, 5, 5)), adds(byDays("New", 1, 5, 5)))
	none(no(api.ErrIs), adds(byDays("p", 1, 5, 5)))
	none(full, tenant("e", "ke", "p", 1))
	none(no(api.ErrArg), tenant("E", "ke", "p", 1))
	none(no(api.ErrIs), tenant("a", "ke", "p", 1), tenant("e", "ka", "p", 1), tenant("e", "root", "p", 1))
	none(no(api.ErrNone), tenant("e", "ke", "p", 2))
	none(no(api.ErrAuth), shows("ke"), hold("ke", 1, 1))
	none(full, change("a", "q", 1))
	none(no(api.ErrNone), change("e", "q", 1), change("a", "q", 3))
	none(atEnd(0), closes(1), closes(100))
	none(no(api.ErrArg), closes(0), closes(101))
	none(no(api.ErrNone), terms("a", 1))
	r.ticks(10 * day)
	none(no(api.ErrOver), change("a", "q", 1))
	none(full, closes(1), closes(100))
	none(no(api.ErrArg), closes(0))
	if r.m.commits != was.commits {
		t.Errorf("P2002: %d transactions", r.m.commits-was.commits)
	}
	r.deep()
	r.opens("root", 10*day)
	none(full, closes(100))
	none(no(api.ErrAuth), shows("ke"))
	r.deep()
}

// TestP2002FullMany: ErrMany is told ahead of ErrDiskFull, and what the account says, too.
func TestP2002FullMany(t *testing.T) {
	r := newRig(t, 1500, 0)
	r.did(adds(byDays("p", 1, 10, 100)))
	for n := range 256 {
		r.did(tenant(some("t", n), some("k", n), "p", 1))
	}
	for n := range 30 {
		r.did(adds(byDays(some("p", n), 1, 10, 100)))
	}
	r.ticks(1)
	for n := 1; n <= 11; n++ {
		r.did(pack("k7", n, 1, 9))
	}
	r.fills()
	r.is(tenant("e", "ke", "p", 1), no(api.ErrMany))
	r.is(adds(byDays("q", 1, 1, 1)), no(api.ErrMany))
	r.is(change("t7", "p", 1), no(api.ErrMany))
	r.is(change("t8", "p", 1), no(api.ErrDiskFull))
	r.is(pack("k7", 12, 1, 9), no(api.ErrDiskFull))
	r.deep()
}

// TestP2002FullPass: a request that is answered ErrDiskFull has passed the throttle.
func TestP2002FullPass(t *testing.T) {
	r := newRig(t, 200, 0)
	p := byDays("p", 1, 10, 100)
	p.Burst, p.Rate = 3, 1
	r.did(adds(p))
	r.did(tenant("a", "ka", "p", 1))
	r.fills()
	r.ticks(2)
	r.is(hold("ka", 1, 5), no(api.ErrDiskFull))
	r.is(hold("ka", 1, 5), no(api.ErrDiskFull))
	r.is(hold("ka", 1, 5), no(api.ErrThrottle))
	r.whole()
}

// TestP2002FullBucket: a change that there was no room for leaves the bucket as it is.
func TestP2002FullBucket(t *testing.T) {
	r := newRig(t, 200, 0)
	for i, burst := range []int{3, 99} {
		p := byDays("p", i+1, 10, 100)
		p.Burst, p.Rate = burst, burst
		r.did(adds(p))
	}
	r.did(tenant("a", "ka", "p", 1))
	r.fills()
	r.is(change("a", "p", 2), no(api.ErrDiskFull))
	r.ticks(5)
	for range 3 {
		r.is(shows("ka"), api.Answer{Left: 100})
	}
	r.is(shows("ka"), no(api.ErrThrottle))
}

// TestP2002FullEdge: the first request that writes, on disks of each size: it is refused just where fewer than 64 pages are free. Then some more.
func TestP2002FullEdge(t *testing.T) {
	done, refused := 0, 0
	for blocks := 64; blocks < 120; blocks++ {
		r := newRig(t, blocks, 0)
		x, _ := r.do(adds(byDays("p", 1, 10, 100)))
		if x.Err == api.OK {
			done++
		} else {
			refused++
		}
		for n := range 9 {
			r.do(tenant(some("t", n), some("k", n), "p", 1))
			r.ticks(n * 7 * day)
			for id := range 5 {
				r.do(hold(some("k", n/2), n*5+id, 1+id))
			}
			r.do(change(some("t", n/3), "p", 1))
			r.do(closes(1 + n))
		}
		r.deep()
		r.opens("root", r.m.now)
	}
	if done == 0 || refused == 0 {
		t.Errorf("P2002: %d were done, %d refused", done, refused)
	}
}

// TestP2002FullRun: a run for whose later terms there is no room ends there, and tells how many were closed; a twin that closes one at a time tells which these are. The disk has fewer and fewer pages left.
func TestP2002FullRun(t *testing.T) {
	first := cast(t, 230)
	first.ticks(100 * day) // 10 terms of a, b and c each are over, 33 of d
	ended := map[int]bool{}
	for n := 1; !ended[0]; n++ {
		first.do(adds(byDays("fill", n, 1, n)))
		if n%4 == 0 || first.s.Left() < bound+4 {
			ended[endsFull(t, first)] = true
		}
	}
	if !ended[63] || len(ended) < 10 {
		t.Errorf("P2002: the runs end behind %v terms", ended)
	}
}

// endsFull tells behind how many terms a run ends for want of room.
func endsFull(t *testing.T, first *rig) int {
	t.Helper()
	twin, r := first.copy(), first.copy()
	k := 0
	for {
		left := twin.s.Left()
		x, _ := twin.do(closes(1))
		if (x.Err == api.ErrDiskFull) != (left < bound) {
			t.Fatalf("P2002: %d pages: %+v", left, x)
		}
		k += x.N
		if x.N == 0 || x.Left == 1 {
			break
		}
	}
	switch {
	case k == 0:
		r.is(closes(100), no(api.ErrDiskFull))
	case k < 63:
		r.is(closes(k+5), told(k))
		r.is(closes(1), no(api.ErrDiskFull))
		r.is(closes(100), no(api.ErrDiskFull))
	default:
		r.is(closes(100), atEnd(63))
	}
	r.sameAs(twin, some("terms ", k))
	r.opens("root", 100*day)
	return k
}

// TestP2002FullLater: a run for which there is no room any more stays where it is, at its Time.
func TestP2002FullLater(t *testing.T) {
	r := cast(t, 260)
	r.ticks(13 * day)
	r.is(closes(2), told(2))
	r.fills()
	was := r.m.cursor
	r.ticks(20 * day)
	r.is(closes(5), no(api.ErrDiskFull))
	r.opens("root", 20*day)
	r.is(closes(5), no(api.ErrDiskFull))
	if r.m.cursor != was || !was.On || was.Time != 13*day || was.Name != "c" {
		t.Errorf("P2002: the cursor was %+v, and is %+v", was, r.m.cursor)
	}
	r.deep()
}

// TestP2002Count: what was answered is counted, and what of it was an error; not what was not answered.
func TestP2002Count(t *testing.T) {
	r := newRig(t, 300, 0)
	counts := func(answered, refused int64) {
		t.Helper()
		if a, b := server.Counted(r.s); a != answered || b != refused {
			t.Errorf("Ways: %d answered, %d refused, not %d, %d", a, b, answered, refused)
		}
	}
	counts(0, 0)
	r.did(adds(byDays("p", 1, 10, 100)))
	r.did(tenant("a", "ka", "p", 1))
	counts(2, 0)
	r.is(shows("nobody"), no(api.ErrAuth))
	r.is(shows("root"), no(api.ErrKind))
	r.is(shows("ka"), no(api.ErrThrottle))
	counts(5, 3)
	r.ticks(1)
	r.is(hold("ka", 1, 200), no(api.ErrQuota))
	r.is(hold("ka", 2, 20), api.Answer{Left: 80, N: 20})
	counts(7, 4)
	r.d.Cut(1)
	r.do(hold("ka", 3, 20))
	r.do(hold("ka", 3, 20))
	r.do(shows("nobody"))
	counts(7, 4)
	r.starts(1)
}
