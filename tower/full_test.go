package tower_test

import (
	"slices"
	"testing"

	"toll/api"
)

// fills adds versions of a plan till there is no room for one more.
func (r *rig) fills(conn int) {
	r.t.Helper()
	for n := r.p.last("fill") + 1; ; n++ {
		x := r.asks(conn, adds(byDays("fill", n, 1, n)))[0]
		if x.Err == api.ErrDiskFull {
			break
		}
		if x.Err != api.OK {
			r.t.Fatalf("P2102: %+v", x)
		}
	}
	if r.x.Left() >= bound {
		r.t.Fatalf("T1: ErrDiskFull with %d pages", r.x.Left())
	}
}

// TestT1Full: where there is no room what would be recorded is answered ErrDiskFull, and nothing is done; all else is answered as ever. One at a time, and all at once.
func TestT1Full(t *testing.T) {
	r := cast(t, 300)
	r.did(1, hold("a", 1, 30))
	r.fills(1)
	full := no(api.ErrDiskFull)
	l := []api.Request{
		hold("a", 2, 5), hold("a", 2, 500), commit("a", 2, 1, 5), release("a", 2, 1), pack("b", 1, 5, 5), adds(byDays("r", 1, 5, 5)), tenant("e", "p", 1), change("a", "q", 1),
		hold("a", 1, 30), hold("a", 0, 30), shows("a"), shows("e"), adds(byDays("p", 1, 5, 5)), tenant("e", "p", 9), closes(9), terms("a", 1), hold("a", 2, 5),
	}
	want := []api.Answer{
		full, full, full, full, full, full, full, full,
		{Left: 70, N: 30}, no(api.ErrArg), {Left: 70}, no(api.ErrAuth), no(api.ErrIs), no(api.ErrNone), atEnd(0), no(api.ErrNone), full,
	}
	wrote, commits := r.d.Writes(), r.x.Commits()
	for i, q := range l {
		r.is(1, q, want[i])
	}
	b := slices.Concat(frames(t, l...), framed([]byte{9}), frames(t, l...), badHeads[0], frames(t, l...))
	all := slices.Concat(want, []api.Answer{no(api.ErrKind)}, want, []api.Answer{no(api.ErrLong)})
	if x, e := r.feed(1, b); e != api.OK || !slices.Equal(x, all) {
		t.Errorf("T1: %+v, %v, not %+v", x, e, all)
	}
	if r.d.Writes() != wrote || r.x.Commits() != commits || r.x.Conns() != 0 {
		t.Errorf("T1: %d writes, %d transactions, Conns() %d", r.d.Writes()-wrote, r.x.Commits()-commits, r.x.Conns())
	}
	r.ticks(10 * day)
	r.is(r.connect(), closes(100), full)
	r.opens()
	r.is(r.connect(), closes(1), full)
	r.deep()
}

// TestT1FullEdge: requests on small disks of each size, one behind the other: each is refused just where fewer than 64 pages are free.
func TestT1FullEdge(t *testing.T) {
	seen := map[api.Errno]int{}
	for blocks := 64; blocks < 130; blocks++ {
		r := newRig(t, blocks, 0)
		conn := r.connect()
		l := []api.Request{adds(byDays("p", 1, 10, 100)), adds(byDays("q", 1, 10, 100))}
		for n := range 6 {
			name := string(rune('a' + n))
			l = append(l, tenant(name, "p", 1), hold(name, 1, 5), pack("a", n+2, 4, 4), change(name, "q", 1), closes(2))
		}
		for i, q := range l {
			left := r.x.Left()
			x := r.asks(conn, q)[0]
			if x.Err == api.ErrDiskFull && left >= bound {
				t.Fatalf("T1: %+v with %d pages: %+v", q, left, x)
			}
			seen[x.Err]++
			r.ticks(i * day / 3)
		}
		r.deep()
	}
	if seen[api.OK] < 100 || seen[api.ErrDiskFull] < 100 {
		t.Errorf("T1: answers %v", seen)
	}
}

// TestT1FullRun: a run of closings for whose later terms there is no room ends there, and tells how many were closed; it goes on when it is asked again.
func TestT1FullRun(t *testing.T) {
	first := cast(t, 230)
	first.ticks(100 * day)
	ends := map[int]bool{}
	for n := 1; first.x.Left() >= bound; n++ {
		first.asks(1, adds(byDays("fill", n, 1, n)))
		r := first.copy()
		x := r.asks(r.connect(), closes(100))[0]
		ends[x.N] = true
		if x.Left == 0 {
			r.is(1, closes(100), no(api.ErrDiskFull))
		}
		r.deep()
	}
	if len(ends) < 10 || !ends[0] || !ends[63] {
		t.Errorf("T1: the runs end behind %v terms", ends)
	}
}
