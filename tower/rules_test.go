package tower_test

import (
	"bytes"
	"slices"
	"strings"
	"testing"

	"toll/api"
)

// TestP1Wild: whatever bytes come, on whatever connections, each call ends and none panics.
func TestP1Wild(t *testing.T) {
	r := busy(t, 900)
	for size := range 1100 {
		conn := r.connect()
		r.feed(conn, []byte(strings.Repeat(string([]byte{byte(size * 7)}), size)))
		r.feed(conn, []byte(thrown(size, uint64(size))))
		r.breaks(conn)
	}
	big := []byte(thrown(1<<22, 1))
	for _, head := range [][]byte{{0, 1}, {2, 0}, {0, 200}, {255, 255}} {
		conn := r.connect()
		copy(big, head)
		r.feed(conn, big)
		r.feed(conn, big[1:])
		r.breaks(conn)
	}
	for _, conn := range wildConns {
		r.feed(conn, big[:9])
		r.breaks(conn)
	}
	r.deep()
}

// TestP1Requests: whatever a request says, be it a frame's.
func TestP1Requests(t *testing.T) {
	r := busy(t, 2000)
	texts := []string{"", "a", "p", "ka", "root", "\x00", "\xff\xfe", strings.Repeat("é", 9), longName}
	numbers := []int{-1 << 63, -1 << 40, -1, 0, 1, 2, 1 << 31, 1 << 40, 1<<53 + 1, 1<<63 - 1}
	conn, k := r.connect(), 0
	for _, kind := range []int{1, 2, 3, 4, 5, 16, 17, 18, 19, 20} {
		for _, key := range append(texts, "knew") {
			for i := range 20 {
				k++
				text := func(n int) string { return texts[(k*n+i)%len(texts)] }
				number := func(n int) int { return numbers[(k/n+i*n)%len(numbers)] }
				q := api.Request{Kind: kind, Key: key, Id: number(1), N: number(3), TTL: number(2), Of: number(5), Name: text(3), Secret: text(7)}
				q.Plan = api.Plan{Name: text(1), Version: number(7), Allowance: number(2), Kind: i % 3, Anchor: number(3), Days: number(4), Cap: number(5), Mode: i % 2, Burst: number(6), Rate: number(2)}
				r.asks(conn, q)
			}
		}
	}
	for _, name := range texts {
		r.x.Account(name)
	}
	r.deep()
}

// TestP2HandedIn: a piece is not changed, nor its spare room; what waits of it is not the piece's own memory, and what was asked for neither.
func TestP2HandedIn(t *testing.T) {
	first := cast(t, 600)
	b := frames(t, hold("a", 1, 30), tenant("new", "p", 1), adds(byDays("r", 1, 7, 70)))
	for at := range len(b) {
		r := first.copy()
		r.ticks(11)
		conn := r.connect()
		lent := slices.Clone(b)
		kept := slices.Clone(b)
		one, e := r.x.Feed(conn, lent[:at])
		if e != api.OK || !bytes.Equal(lent, kept) {
			t.Fatalf("P2: Feed of %d bytes: %v; they are %x, were %x", at, e, lent, kept)
		}
		clear(lent[:at])
		two, e := r.x.Feed(conn, lent[at:])
		if e != api.OK || !bytes.Equal(lent[at:], kept[at:]) {
			t.Fatalf("P2: Feed of the rest behind %d bytes: %v; they are %x, were %x", at, e, lent[at:], kept[at:])
		}
		clear(lent)
		if got := parsed(t, slices.Concat(one, two)); !slices.Equal(got, []api.Answer{{Left: 70, N: 30}, told(1), told(1)}) {
			t.Fatalf("P2: cut at %d: %+v", at, got)
		}
		if !slices.Equal(r.x.Names(), []string{"a", "b", "c", "d", "new"}) {
			t.Fatalf("P2: cut at %d: %q", at, r.x.Names())
		}
	}
}

// TestP2Answered: what was answered is not changed by later calls, nor does it change them, its spare room neither.
func TestP2Answered(t *testing.T) {
	r := busy(t, 3000)
	conn := r.connect()
	names := r.x.Names()
	was := slices.Clone(names)
	for i := range 30 {
		r.asks(conn, pack("new", 40+i, 1, 5), hold("a", 40+i, 1), shows("b"), tenant("t"+string(rune('a'+i%26)), "p", 1), terms("a", 1))
		r.asks(conn, closes(1))
		for _, name := range r.x.Names() {
			a, _ := r.x.Account(name)
			spoil(a)
		}
		l := r.x.Names()
		for k := range l[:cap(l)] {
			l[:cap(l)][k] = "x"
		}
		r.ticks(r.p.now + day/2)
	}
	if !slices.Equal(names, was) {
		t.Errorf("P2: %q were %q", names, was)
	}
	r.deep()
}

// spoil writes over all lists of an account, their spare room too.
func spoil(a api.Account) {
	for _, h := range a.Holds {
		fill(h.Parts, api.Part{Lot: 99, N: -1})
	}
	fill(a.Lots, api.Lot{Id: 99, Granted: -1})
	fill(a.Holds, api.Hold{Id: 99})
	fill(a.Window, api.Entry{Id: 99})
}

func fill[T any](l []T, x T) {
	l = l[:cap(l)]
	for i := range l {
		l[i] = x
	}
}

// TestP2Spoiled: answers that are written over change no later one.
func TestP2Spoiled(t *testing.T) {
	r := cast(t, 600)
	var all []byte
	for id := 1; id <= 9; id++ {
		out, e := r.x.Feed(1, frames(t, hold("a", id, id), shows("a"), hold("nobody", 1, 1)))
		if e != api.OK {
			t.Fatalf("P2102: %v", e)
		}
		all = append(all, out...)
		fill(out, 0xA5)
	}
	left := 100
	for id, got := 1, parsed(t, all); id <= 9; id, got = id+1, got[3:] {
		left -= id
		if want := []api.Answer{{Left: left, N: id}, {Left: left}, no(api.ErrAuth)}; !slices.Equal(got[:3], want) {
			t.Errorf("P2: %+v, not %+v", got[:3], want)
		}
	}
}

// TestP3Again: the same calls in the same order answer the same.
func TestP3Again(t *testing.T) {
	for seed := range 20 {
		first := lives(t, thrown(1500, uint64(seed)), 500, api.MHard, api.MOver)
		lives(t, thrown(1500, uint64(seed+1000)), 500, api.MHard, api.MOver)
		again := lives(t, thrown(1500, uint64(seed)), 500, api.MHard, api.MOver)
		if !slices.Equal(first.said, again.said) || first.d.Writes() != again.d.Writes() || first.x.Left() != again.x.Left() {
			t.Fatalf("P3: of seed %d", seed)
		}
	}
}

// TestP5Refused: what is refused changes nothing that a later call could tell: a tower that was asked all that may not be goes on as one that was not.
func TestP5Refused(t *testing.T) {
	first := cast(t, 900)
	quiet, loud := first.copy(), first.copy()
	quiet.connect()
	loud.connect()
	wrong := slices.Concat(
		frames(t, adds(byDays("s", 3, 4, 40)), adds(byDays("p", 1, 4, 40)), tenant("e", "none", 1), tenant("a", "p", 1), tenant("F", "p", 1), change("x", "p", 1), change("a", "x", 1), closes(0), closes(101), terms("x", 1), terms("a", 99)),
		frames(t, hold("nobody", 1, 1), hold("root", 1, 1), api.Request{Kind: api.KClose, Key: "ka", N: 1}, api.Request{Kind: api.KHold, Key: "root"}),
		framed([]byte{5}), framed([]byte{0}), framed([]byte{5, 0, 0}),
	)
	for i, q := range []api.Request{adds(byDays("s", 1, 4, 40)), tenant("e", "s", 1), change("a", "s", 1), hold("a", 1, 5), commit("a", 2, 1, 3), closes(2), closes(100), terms("a", 1), pack("d", 1, 3, 300)} {
		for _, r := range []*rig{quiet, loud} {
			r.ticks((10 + i) * day / 2)
		}
		x, _ := loud.feed(1, wrong)
		for k, a := range x {
			if a.Err == api.OK {
				t.Errorf("P5: the request %d is not refused", k)
			}
		}
		loud.ticks(quiet.p.now - 1)
		loud.ticks(-1)
		loud.breaks(2)
		loud.feed(2, wrong)
		if x, y := quiet.asks(1, q), loud.asks(1, q); !slices.Equal(x, y) {
			t.Errorf("P5: %+v: %+v, and behind what was refused %+v", q, x, y)
		}
	}
	loud.sameAs(quiet, "P5")
	loud.deep()
	if loud.connect() != 2 {
		t.Errorf("P5: the next connection is %d", loud.last)
	}
}

// TestP7Two: towers on disks of their own do not see one another: neither connections, nor bytes that wait, nor tenants, time and power.
func TestP7Two(t *testing.T) {
	a, b := newRig(t, 500, 0), newRig(t, 500, 7)
	a.did(a.connect(), adds(byDays("p", 1, 10, 100)), tenant("a", "p", 1))
	for range 3 {
		a.connect()
	}
	if _, e := b.feed(1, nil); e != api.ErrNone || b.connect() != 1 || a.x.Conns() != 4 {
		t.Errorf("P7: %v, %d, Conns() %d", e, b.last, a.x.Conns())
	}
	b.is(1, shows("a"), no(api.ErrAuth))
	b.is(1, tenant("a", "p", 1), no(api.ErrNone))
	front := frames(t, shows("a"))
	a.feed(1, front[:3])
	b.feed(1, front[:5])
	a.feed(1, front[3:])
	b.feed(1, front[5:])
	b.did(1, adds(byDays("p", 1, 5, 50)), tenant("a", "p", 1))
	a.ticks(9 * day)
	b.is(1, closes(1), atEnd(0))
	b.ticks(5 * day)
	a.is(1, closes(1), atEnd(0))
	b.is(1, closes(1), atEnd(1))
	a.is(1, terms("a", 1), no(api.ErrNone))
	b.feed(1, badHeads[0])
	a.is(1, shows("a"), api.Answer{Left: 100})
	kill(a.d)
	b.is(b.connect(), shows("a"), api.Answer{Left: 62})
	a.feed(1, front)
	for seed := range 10 {
		d := thrown(3000, uint64(seed)+77)
		both := [2]*life{begun(t, &d, 500, api.MHard, api.MOver), begun(t, &d, 500, api.MOver)}
		for len(d) > 0 {
			both[d.roll(2)].step()
		}
		for _, x := range both {
			x.dies()
		}
	}
}
