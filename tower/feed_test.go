package tower_test

import (
	"bytes"
	"slices"
	"strings"
	"testing"

	"toll/api"
	"toll/frame"
)

// TestP2102Example: the chapter's, and other keys that are nobody's.
func TestP2102Example(t *testing.T) {
	r := cast(t, 600)
	for _, key := range []string{"nobody", "", "k", "a", "KA", "roo", "root ", "\x00", longName, strings.Repeat("k", 255)} {
		r.is(1, api.Request{Kind: api.KShow, Key: key}, no(api.ErrAuth))
		out, e := r.x.Feed(1, frames(t, api.Request{Kind: api.KShow, Key: key}))
		if e != api.OK || !bytes.Equal(out, append([]byte{0, 26, 21}, make([]byte, 25)...)) {
			t.Errorf("P2102: %q: %x, %v", key, out, e)
		}
	}
}

// TestP2102Bytes: an answer's frame, written out, with a statement and without.
func TestP2102Bytes(t *testing.T) {
	r := cast(t, 600)
	out, e := r.x.Feed(1, frames(t, hold("a", 7, 95), shows("a")))
	want := []byte{0, 26, 0, 0, 0, 0, 0, 0, 0, 0, 5, 0, 0, 0, 0, 0, 0, 0, 0, 0, 0, 0, 0, 0, 0, 0, 95, 0}
	want = append(want, 0, 26, 0, 0, 0, 0, 0, 0, 0, 0, 5)
	want = append(want, make([]byte, 17)...)
	if e != api.OK || !bytes.Equal(out, want) {
		t.Errorf("P2102: %x, %v, not %x", out, e, want)
	}
}

// TestP2102Parts: of no bytes, of a part of a frame, there are no answers; the last byte brings one.
func TestP2102Parts(t *testing.T) {
	r := cast(t, 600)
	b := frames(t, hold("a", 1, 30))
	for _, at := range []int{0, 1, 2, 3, len(b) - 1} {
		for _, part := range [][]byte{nil, {}, b[:at], nil} {
			if x, e := r.feed(1, part); len(x) != 0 || e != api.OK {
				t.Errorf("P2102: %d bytes: %+v, %v", len(part), x, e)
			}
		}
		if x, e := r.feed(1, b[at:]); e != api.OK || !slices.Equal(x, []api.Answer{{Left: 70, N: 30}}) {
			t.Errorf("P2102: the rest behind %d: %+v, %v", at, x, e)
		}
	}
	r.deep()
}

// mixed are frames of all sorts, with their answers at a cast's beginning: the last is a length that may not be.
func mixed(t testing.TB) ([]byte, []api.Answer) {
	t.Helper()
	b := slices.Concat(
		frames(t, hold("a", 1, 30), shows("x"), commit("a", 2, 1, 20)),
		framed([]byte{5}),
		framed([]byte{99, 1, 'k'}),
		frames(t, tenant("new", "p", 1), hold("b", 1, 101)),
		framed([]byte{5, 1, 'k', 0}),
		frames(t, pack("d", 9, 5, 70), release("a", 3, 7), closes(3), terms("a", 1), hold("a", 1, 30), shows("a")),
		badHeads[1],
	)
	return b, []api.Answer{
		{Left: 70, N: 30}, no(api.ErrAuth), {Left: 80, N: 20}, no(api.ErrCut), no(api.ErrKind), told(1), no(api.ErrQuota), no(api.ErrMore),
		{Left: 55, N: 2}, no(api.ErrNone), atEnd(0), no(api.ErrNone), {Left: 70, N: 30}, {Left: 80}, no(api.ErrLong),
	}
}

// TestP2102Pieces: several frames at once, and in pieces of every size: the answers are the same, one behind the other.
func TestP2102Pieces(t *testing.T) {
	first := cast(t, 900)
	b, want := mixed(t)
	for size := 1; size <= len(b); size++ {
		r := first.copy()
		r.ticks(11)
		conn := r.connect()
		var got []api.Answer
		for piece := range slices.Chunk(b, size) {
			x, e := r.feed(conn, piece)
			if e != api.OK {
				t.Fatalf("P2102: by %d: %v", size, e)
			}
			got = append(got, x...)
		}
		if !slices.Equal(got, want) || r.x.Conns() != 0 {
			t.Fatalf("P2102: by %d: %+v, not %+v; Conns() %d", size, got, want, r.x.Conns())
		}
	}
}

// TestP2102Order: requests that hang on one another are done and answered in their order.
func TestP2102Order(t *testing.T) {
	r := newRig(t, 2000, 0)
	conn := r.connect()
	l := []api.Request{tenant("a", "p", 1), adds(byDays("p", 2, 5, 9)), adds(byDays("p", 1, 10, 100)), tenant("a", "p", 1), tenant("a", "p", 1), change("a", "p", 2), adds(byDays("p", 2, 5, 40)), change("a", "p", 2), shows("a")}
	want := []api.Answer{no(api.ErrNone), no(api.ErrArg), told(1), told(1), no(api.ErrIs), no(api.ErrNone), told(2), told(40), no(api.ErrThrottle)}
	if x := r.asks(conn, l...); !slices.Equal(x, want) {
		t.Errorf("P2102: %+v, not %+v", x, want)
	}
	r.ticks(1)
	l = []api.Request{hold("a", 1, 25), hold("a", 2, 25), release("a", 3, 1), hold("a", 4, 25), commit("a", 5, 4, 25), commit("a", 6, 4, 25), shows("a")}
	want = []api.Answer{{Left: 15, N: 25}, no(api.ErrQuota), {Left: 40, N: 25}, {Left: 15, N: 25}, {Left: 15, N: 25}, no(api.ErrNone), {Left: 15}}
	if x := r.asks(conn, l...); !slices.Equal(x, want) {
		t.Errorf("P2102: %+v, not %+v", x, want)
	}
	r.deep()
}

// TestP2102Turns: the pieces of connections that come by turns are not mixed.
func TestP2102Turns(t *testing.T) {
	for _, conns := range []int{2, 16} {
		r := cast(t, 900)
		r.breaks(1)
		var streams [][]byte
		asked := map[string]int{}
		for n := range conns {
			r.connect()
			name := []string{"a", "b", "c", "d"}[n%4]
			asked[name] += 2
			streams = append(streams, slices.Concat(frames(t, hold(name, n+1, n+1), shows(name)), framed(make([]byte, n+1)), frames(t, hold("nobody", n, n), release(name, n+50, n+1))))
		}
		for at := 0; len(r.waits) > 0; at++ {
			for n, b := range streams {
				conn := n + 2
				switch {
				case at == len(b):
					r.breaks(conn)
				case at < len(b):
					r.feed(conn, b[at:at+1])
				}
			}
		}
		for _, name := range r.x.Names() {
			a, _ := r.x.Account(name)
			if len(a.Holds) != 0 || len(a.Window) != asked[name] {
				t.Errorf("P2102: %d by turns: %+v", conns, a)
			}
		}
		r.deep()
	}
}

// TestP2102NoRequest: bytes that are no request are answered by that error, and nothing is done; the connection stays.
func TestP2102NoRequest(t *testing.T) {
	r := cast(t, 600)
	whole := frames(t, hold("a", 1, 30))[2:]
	isNone := func(b []byte, want api.Errno) {
		t.Helper()
		wrote, commits := r.d.Writes(), r.x.Commits()
		x, e := r.feed(1, framed(b))
		if e != api.OK || !slices.Equal(x, []api.Answer{no(want)}) || r.d.Writes() != wrote || r.x.Commits() != commits {
			t.Errorf("P2102: %x: %+v, %v, not %v; %d writes", b, x, e, want, r.d.Writes()-wrote)
		}
	}
	for at := 1; at < len(whole); at++ {
		isNone(whole[:at], api.ErrCut)
	}
	for many := len(whole) + 1; many <= 512; many++ {
		isNone(append(slices.Clone(whole), make([]byte, many-len(whole))...), api.ErrMore)
	}
	for kind := range 256 {
		if (kind < 1 || kind > 5) && (kind < 16 || kind > 20) {
			isNone([]byte{byte(kind)}, api.ErrKind)
			isNone(append([]byte{byte(kind)}, whole[1:]...), api.ErrKind)
		}
	}
	a, _ := r.x.Account("a")
	if len(a.Window) != 0 {
		t.Errorf("P2102: %+v", a)
	}
	r.is(1, hold("a", 1, 30), api.Answer{Left: 70, N: 30})
	r.deep()
}

// TestP2102Broken: a frame without bytes, or one that is too long: what came ahead is answered, nothing behind, and the connection is there no more.
func TestP2102Broken(t *testing.T) {
	for _, head := range badHeads {
		r := cast(t, 900)
		other := r.connect()
		b := slices.Concat(frames(t, hold("a", 1, 30), shows("b")), head, frames(t, hold("a", 2, 20), hold("b", 1, 10)), head)
		conn := r.connect()
		x, e := r.feed(conn, b)
		if e != api.OK || !slices.Equal(x, []api.Answer{{Left: 70, N: 30}, {Left: 100}, no(api.ErrLong)}) || r.x.Conns() != 2 {
			t.Errorf("P2102: a length %x: %+v, %v; Conns() %d", head, x, e, r.x.Conns())
		}
		for range 2 {
			if x, e := r.feed(conn, frames(t, hold("a", 2, 20))); len(x) != 0 || e != api.ErrNone {
				t.Errorf("P2102: behind a length %x: %+v, %v", head, x, e)
			}
			if e := r.breaks(conn); e != api.ErrNone {
				t.Errorf("P2101: behind a length %x: Break: %v", head, e)
			}
		}
		r.is(other, shows("a"), api.Answer{Left: 70})
		r.is(1, shows("b"), api.Answer{Left: 100})
		r.deep()
	}
}

// TestP2102BrokenLate: the length that may not be comes in two pieces, alone, behind a part of a frame, behind many.
func TestP2102BrokenLate(t *testing.T) {
	for _, head := range badHeads {
		r := cast(t, 900)
		for _, ahead := range [][]byte{nil, frames(t, shows("a")), framed([]byte{7}), framed(make([]byte, 512))} {
			for at := range len(ahead) + 2 {
				conn := r.connect()
				b := slices.Concat(ahead, head)
				r.feed(conn, b[:at])
				x, e := r.feed(conn, b[at:])
				if e != api.OK || len(x) == 0 || x[len(x)-1] != no(api.ErrLong) || r.x.Conns() != 1 {
					t.Fatalf("P2102: %x cut at %d: %+v, %v; Conns() %d", b, at, x, e, r.x.Conns())
				}
			}
		}
	}
}

// TestP2102Longest: the longest answers, a statement of the longest name with great numbers, one behind the other.
func TestP2102Longest(t *testing.T) {
	r := newRig(t, 3000, 0)
	p := byDays("p", 1, 366, api.MaxUnits)
	p.Mode = api.MOver
	q := tenant(longName, "p", 1)
	q.Secret = longName
	r.did(r.connect(), adds(p), q)
	r.ticks(1)
	ask := func(kind, id, of, n int) api.Request {
		return api.Request{Kind: kind, Key: longName, Id: id, Of: of, N: n, TTL: 9}
	}
	r.did(1, ask(api.KHold, 1, 0, api.MaxUnits), ask(api.KHold, 2, 0, api.MaxUnits), ask(api.KCommit, 3, 1, api.MaxUnits), ask(api.KCommit, 4, 2, api.MaxUnits))
	r.ticks(2000000 * day)
	for range 3 {
		r.did(1, closes(100))
	}
	want := api.Answer{Statement: api.Statement{Name: longName, Term: 1, To: 366, Granted: api.MaxUnits, Consumed: api.MaxUnits, Over: api.MaxUnits}}
	r.is(1, terms(longName, 1), want)
	var l []api.Request
	for range 200 {
		l = append(l, terms(longName, 1), terms(longName, 2), terms(longName, 300))
	}
	out, e := r.x.Feed(1, frames(t, l...))
	if e != api.OK || len(out) != 600*117 || !bytes.Equal(out[:117], framed(frame.EncodeAnswer(want))) {
		t.Errorf("P2102: %d bytes, %v", len(out), e)
	}
	r.asks(1, l...)
	r.deep()
}

// TestP2102Unsent: a connection that breaks ahead of a request's last byte: it is never done, nor do the other bytes bring it on another one; sent again whole on another one it is.
func TestP2102Unsent(t *testing.T) {
	first := cast(t, 600)
	for what, q := range map[string]api.Request{"a hold": hold("a", 1, 30), "a pack": pack("b", 1, 5, 70), "a tenant": tenant("new", "p", 1), "a plan": adds(byDays("r", 1, 5, 5)), "a change": change("a", "q", 1)} {
		b := frames(t, q)
		r := first.copy()
		r.ticks(11)
		commits := r.x.Commits()
		for at := 1; at < len(b); at++ {
			conn := r.connect()
			r.feed(conn, b[:at])
			r.breaks(conn)
			if _, e := r.feed(conn, b[at:]); e != api.ErrNone {
				t.Fatalf("P2102: Feed of one that was broken: %v", e)
			}
			r.feed(r.connect(), b[at:])
			r.breaks(r.last)
			if r.x.Commits() != commits {
				t.Fatalf("P2102: %s, broken behind %d of %d bytes, was done", what, at, len(b))
			}
		}
		r.did(r.connect(), q)
		if r.x.Commits() != commits+1 {
			t.Errorf("P2102: %s, sent again whole: %d transactions", what, r.x.Commits()-commits)
		}
		r.deep()
	}
}

// TestT5Again: a request that is sent again with the same Id, on other connections, behind breaks and openings, is done once, and answered as first, whatever else it says.
func TestT5Again(t *testing.T) {
	r := cast(t, 900)
	r.did(1, hold("a", 1, 30))
	want := map[api.Request]api.Answer{
		hold("a", 2, 20): {Left: 50, N: 20}, commit("a", 3, 1, 10): {Left: 70, N: 10}, hold("a", 4, 400): no(api.ErrQuota), release("a", 5, 9): no(api.ErrNone), pack("a", 6, 5, 50): {Left: 75, N: 2}, hold("a", 7, 0): no(api.ErrArg),
	}
	l := []api.Request{hold("a", 2, 20), commit("a", 3, 1, 10), hold("a", 4, 400), release("a", 5, 9), pack("a", 6, 5, 50), hold("a", 7, 0)}
	for _, q := range l {
		r.is(1, q, want[q])
	}
	commits := r.x.Commits()
	for round := range 8 {
		conn := r.connect()
		for _, q := range l {
			r.is(conn, q, want[q])
			other := q
			other.Kind, other.N, other.TTL, other.Of = api.KHold, 1, 1, 0
			r.is(conn, other, want[q])
		}
		switch round % 4 {
		case 0:
			r.breaks(conn)
		case 1:
			r.opens()
		case 2:
			kill(r.d)
			r.starts(r.p.now)
		}
		r.ticks(r.p.now + 1)
	}
	if r.x.Commits() != commits {
		t.Errorf("T5: %d transactions", r.x.Commits()-commits)
	}
	r.deep()
}
