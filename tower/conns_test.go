package tower_test

import (
	"slices"
	"testing"

	"toll/api"
	"toll/tower"
)

// wildConns are numbers that no connection has.
var wildConns = []int{0, -1, -16, -1 << 63, 1 << 20, 1 << 32, 1<<32 + 1, 1<<63 - 1}

// TestP2101Refused: an admin that is no name, a tick that is none, a disk that is too small, one whose power is gone; what may not be is told ahead of the power.
func TestP2101Refused(t *testing.T) {
	d, small, dead := newDisk(t, 100), newDisk(t, 63), newDisk(t, 100)
	kill(dead)
	refuses := func(x *tower.Tower, e, want api.Errno) {
		t.Helper()
		if x != nil || e != want {
			t.Errorf("P2101: New: %v, not %v", e, want)
		}
	}
	for _, name := range badNames {
		x, e := tower.New(d, name, 0)
		refuses(x, e, api.ErrArg)
		x, e = tower.New(dead, name, 0)
		refuses(x, e, api.ErrArg)
	}
	for _, now := range badTicks {
		x, e := tower.New(d, "root", now)
		refuses(x, e, api.ErrArg)
		x, e = tower.New(dead, "root", now)
		refuses(x, e, api.ErrArg)
	}
	x, e := tower.New(small, "root", 0)
	refuses(x, e, api.ErrArg)
	x, e = tower.New(dead, "root", 0)
	refuses(x, e, api.ErrDead)
	if d.Writes() != 0 {
		t.Errorf("P5: New was refused, and there are %d writes", d.Writes())
	}
}

// TestP2101New: a tower on a new disk has no connections, at the edges of time and of names, and on the smallest disk.
func TestP2101New(t *testing.T) {
	for _, now := range []int{0, 1, day, last - 1, last} {
		for _, admin := range []string{"r", "-", longName, "root"} {
			r := rigOf(t, newDisk(t, 64), newPlain(admin, now))
			for _, conn := range append(wildConns, 1, 2, 16) {
				if e := r.breaks(conn); e != api.ErrNone {
					t.Errorf("P2101: Break(%d): %v", conn, e)
				}
				if _, e := r.feed(conn, nil); e != api.ErrNone {
					t.Errorf("P2102: Feed(%d): %v", conn, e)
				}
			}
			conn := r.connect()
			if conn != 1 || r.x.Conns() != 1 {
				t.Errorf("P2101: the first connection is %d; Conns() %d", conn, r.x.Conns())
			}
			r.is(conn, api.Request{Kind: api.KShow, Key: admin}, no(api.ErrKind))
			r.is(conn, api.Request{Kind: api.KShow, Key: admin + "x"}, no(api.ErrAuth))
			if e := r.x.Tick(now - 1); e != api.ErrArg {
				t.Errorf("P2101: Tick of a lesser one: %v", e)
			}
		}
	}
}

// TestP2101Again: a tower on a disk that an earlier one left: what lasts is there, no connection is, and nothing of the bytes that waited.
func TestP2101Again(t *testing.T) {
	r := cast(t, 600)
	r.did(1, hold("a", 1, 30))
	b := frames(t, hold("a", 2, 20))
	for range 4 {
		r.feed(r.connect(), b[:len(b)-1])
	}
	r.opens()
	if r.x.Conns() != 0 {
		t.Errorf("P2101: Conns() %d", r.x.Conns())
	}
	for conn := range 9 {
		r.breaks(conn)
		r.feed(conn, b[len(b)-1:])
	}
	if conn := r.connect(); conn != 1 {
		t.Errorf("P2101: the first connection is %d", conn)
	}
	r.ticks(11)
	r.feed(1, b[len(b)-1:])
	r.is(r.connect(), shows("a"), api.Answer{Left: 70})
	r.deep()
}

// TestP2101Many: MaxConns connections and no more; behind each that is there no more, one.
func TestP2101Many(t *testing.T) {
	r := newRig(t, 100, 0)
	connects := func(want int, e api.Errno) {
		t.Helper()
		if n, got := r.tries(); n != want || got != e {
			t.Errorf("P2101: Connect: %d, %v, not %d, %v", n, got, want, e)
		}
	}
	for n := 1; n <= 16; n++ {
		connects(n, api.OK)
		if r.x.Conns() != n {
			t.Errorf("P2101: Conns() %d, not %d", r.x.Conns(), n)
		}
	}
	for range 3 {
		connects(0, api.ErrMany)
	}
	r.breaks(5)
	connects(17, api.OK)
	connects(0, api.ErrMany)
	r.breaks(17)
	r.breaks(16)
	r.breaks(16)
	connects(18, api.OK)
	connects(19, api.OK)
	connects(0, api.ErrMany)
	r.feed(7, []byte{0, 0})
	connects(20, api.OK)
	connects(0, api.ErrMany)
	if r.x.Conns() != 16 {
		t.Errorf("P2101: Conns() %d", r.x.Conns())
	}
}

// TestP2101Numbers: no number comes twice, whatever was broken, or went by itself.
func TestP2101Numbers(t *testing.T) {
	r := newRig(t, 100, 0)
	d := thrown(4000, 7)
	for len(d) > 0 {
		switch d.roll(5) {
		case 0:
			r.breaks(d.roll(r.last + 2))
		case 1:
			r.feed(d.roll(r.last+2), pick(&d, badHeads...))
		case 2:
			if r.last > 0 {
				r.breaks(r.last)
			}
		default:
			r.tries()
		}
	}
	if r.last < 300 {
		t.Errorf("P2101: only %d connections", r.last)
	}
	for conn := range r.last + 2 {
		r.breaks(conn)
	}
	if n := r.last + 1; r.x.Conns() != 0 || r.connect() != n {
		t.Errorf("P2101: Conns() %d, then %d, not %d", r.x.Conns(), r.last, n)
	}
}

// TestP2101Break: of one that is there, that never was, that was broken, that went by itself; the others stay.
func TestP2101Break(t *testing.T) {
	r := newRig(t, 100, 0)
	broken := func(conn int, want api.Errno, conns int) {
		t.Helper()
		if e := r.breaks(conn); e != want || r.x.Conns() != conns {
			t.Errorf("P2101: Break(%d): %v, Conns() %d, not %v, %d", conn, e, r.x.Conns(), want, conns)
		}
	}
	broken(1, api.ErrNone, 0)
	for range 4 {
		r.connect()
	}
	for _, conn := range append(wildConns, 5) {
		broken(conn, api.ErrNone, 4)
	}
	broken(2, api.OK, 3)
	broken(2, api.ErrNone, 3)
	r.feed(4, []byte{255, 255})
	broken(4, api.ErrNone, 2)
	r.is(1, shows("a"), no(api.ErrAuth))
	r.is(3, shows("a"), no(api.ErrAuth))
	broken(3, api.OK, 1)
	broken(1, api.OK, 0)
	broken(1, api.ErrNone, 0)
	for conn := range 6 {
		if _, e := r.feed(conn, nil); e != api.ErrNone {
			t.Errorf("P2102: Feed(%d): %v", conn, e)
		}
	}
}

// TestP2101Dead: where the power is gone that is told ahead of all else, but of a connection that is not there; one that is can be broken.
func TestP2101Dead(t *testing.T) {
	for _, conns := range []int{0, 1, 15, 16} {
		r := newRig(t, 100, 5)
		for range conns {
			r.connect()
		}
		kill(r.d)
		for range 2 {
			if n, e := r.tries(); n != 0 || e != api.ErrDead {
				t.Errorf("P2101: Connect, the power being gone: %d, %v", n, e)
			}
		}
		for _, now := range append(badTicks, 0, 4, 5, 6, last) {
			if e := r.ticks(now); e != api.ErrDead {
				t.Errorf("P2101: Tick(%d), the power being gone: %v", now, e)
			}
		}
		for _, conn := range append(wildConns, 17, 1, 2, 1, 16) {
			is := slices.Contains([]int{1, 2, 16}, conn) && conn <= conns
			_, e := r.feed(conn, frames(t, shows("a")))
			if is != (e == api.ErrDead) || !is && e != api.ErrNone {
				t.Errorf("P2102: Feed(%d), the power being gone: %v", conn, e)
			}
		}
		for n := conns; n > 0; n-- {
			if e := r.breaks(n); e != api.OK || r.x.Conns() != n-1 {
				t.Errorf("P2101: Break(%d), the power being gone: %v; Conns() %d", n, e, r.x.Conns())
			}
			if e := r.breaks(n); e != api.ErrNone {
				t.Errorf("P2101: Break(%d) again, the power being gone: %v", n, e)
			}
		}
		if n, e := r.tries(); n != 0 || e != api.ErrDead {
			t.Errorf("P2101: Connect behind breaks, the power being gone: %d, %v", n, e)
		}
	}
}

// TestP5Dead: what was refused since the power was gone has changed nothing: where it comes again, and nothing was cut off, all is as it was.
func TestP5Dead(t *testing.T) {
	r := cast(t, 600)
	b := frames(t, hold("a", 1, 30), shows("a"))
	r.feed(1, b[:20])
	kill(r.d)
	r.tries()
	r.ticks(5000)
	r.feed(1, b[20:])
	r.feed(1, []byte{0, 0, 0, 0})
	r.feed(2, b)
	r.d.Start()
	if conn := r.connect(); conn != 2 {
		t.Errorf("P5: the next connection is %d", conn)
	}
	if e := r.ticks(11); e != api.OK {
		t.Errorf("P5: Tick: %v", e)
	}
	if x, e := r.feed(1, b[20:]); e != api.OK || !slices.Equal(x, []api.Answer{{Left: 70, N: 30}, {Left: 70}}) {
		t.Errorf("P5: %+v, %v", x, e)
	}
	r.deep()
}

// TestP2101Tick: a lesser tick and one that is none are refused, and the time stays; the same one is not.
func TestP2101Tick(t *testing.T) {
	r := newRig(t, 300, 50)
	r.did(r.connect(), adds(rated("p", 1, 1000, 1)), tenant("a", "p", 1))
	passes := func(many int) {
		t.Helper()
		for range many {
			r.is(1, shows("a"), api.Answer{Left: 100})
		}
		r.is(1, shows("a"), no(api.ErrThrottle))
	}
	ticks := func(want api.Errno, all ...int) {
		t.Helper()
		for _, now := range all {
			if e := r.ticks(now); e != want {
				t.Errorf("P2101: Tick(%d): %v, not %v", now, e, want)
			}
		}
	}
	ticks(api.ErrArg, append(badTicks, 49, 0)...)
	passes(0)
	ticks(api.OK, 50, 50)
	passes(0)
	ticks(api.OK, 51, 53, 53)
	ticks(api.ErrArg, append(badTicks, 52, 50)...)
	passes(3)
	ticks(api.OK, 60)
	passes(7)
	ticks(api.OK, last-1, last, last)
	ticks(api.ErrArg, last+1, last-1)
}

// TestWaysOnce: the map of connections is made once: others that come and go do not take the bytes that wait.
func TestWaysOnce(t *testing.T) {
	r := newRig(t, 100, 0)
	conn := r.connect()
	front := frames(t, shows("a"))
	r.feed(conn, front[:4])
	for range 30 {
		r.tries()
	}
	for n := 2; n <= 16; n++ {
		r.breaks(n)
	}
	r.connect()
	if x, _ := r.feed(conn, front[4:]); !slices.Equal(x, []api.Answer{no(api.ErrAuth)}) {
		t.Errorf("P2102: %+v", x)
	}
	if kept := tower.Kept(r.x); kept != 2 {
		t.Errorf("Ways: %d are kept", kept)
	}
}
