package session_test

import (
	"slices"
	"strings"
	"testing"

	"toll/api"
	"toll/session"
)

// TestP1Wild: whatever bytes there are, each call ends and none panics.
func TestP1Wild(t *testing.T) {
	for size := range 600 {
		for _, x := range []byte{0, 1, 2, 3, 5, 16, 254, 255} {
			all := []byte(strings.Repeat(string([]byte{x}), size))
			cuts(t, all)
			cuts(t, all, size/2)
		}
	}
	big := sourceOf(1).bytes(1 << 22)
	cuts(t, big)
	big[0], big[1] = 2, 0
	cuts(t, big)
	cuts(t, big, 1<<20)
}

// spoil turns all of some bytes, their spare room too.
func spoil(b []byte) {
	b = b[:cap(b)]
	for i := range b {
		b[i] ^= 0xA5
	}
}

// TestP2HandedIn: a piece and its spare room are not changed; turned behind the call they change neither what was told, nor what waits.
func TestP2HandedIn(t *testing.T) {
	x := asked(t, sized(300))
	for at := range len(x) {
		s := session.New()
		lent := slices.Concat(x, x[:at])
		kept := slices.Clone(lent)
		first := s.Feed(lent[:len(x)+at])
		if !slices.Equal(lent, kept) {
			t.Fatalf("P2: a piece with %d bytes that wait was changed", at)
		}
		spoil(lent)
		rest := slices.Concat(x[at:], x)
		whole := slices.Clone(rest)
		second := s.Feed(rest[: len(x)-at : len(x)-at])
		third := s.Feed(rest[len(x)-at:])
		if !slices.Equal(rest, whole) {
			t.Fatalf("P2: the rest behind %d bytes that waited was changed", at)
		}
		spoil(rest)
		want := []session.Item{said(sized(300))}
		if !slices.Equal(first, want) || !slices.Equal(second, want) || !slices.Equal(third, want) {
			t.Fatalf("P2: cut at %d: %s%s%s", at, told(first), told(second), told(third))
		}
	}
}

// TestP2SpareRoom: what waits may be the front of a piece's memory: it does not grow into the spare room, and the spare room is not read.
func TestP2SpareRoom(t *testing.T) {
	x := asked(t, shows("key"))
	for at := range x {
		s := session.New()
		lent := slices.Clone(x)
		if l := s.Feed(lent[:at]); len(l) != 0 || s.Waits() != at {
			t.Fatalf("P2: of %d bytes: %s, %d wait", at, told(l), s.Waits())
		}
		more := slices.Concat(x[at:], x)
		l := s.Feed(more[:len(x)-at])
		if !slices.Equal(l, []session.Item{said(shows("key"))}) || s.Waits() != 0 {
			t.Fatalf("P2: of the rest behind %d: %s", at, told(l))
		}
		if !slices.Equal(lent, x) || !slices.Equal(more, slices.Concat(x[at:], x)) {
			t.Fatalf("P2: cut at %d the spare room was written over", at)
		}
	}
}

// TestP2Answered: what was answered is not changed by later calls, nor does it change what is answered later, its spare room neither.
func TestP2Answered(t *testing.T) {
	a, b, c := sized(200), sized(201), shows("other")
	all := slices.Concat(asked(t, a), asked(t, b), asked(t, c))
	want := []session.Item{said(a), said(b), said(c)}
	for many := 1; many <= len(all); many++ {
		s := session.New()
		var rounds [][]session.Item
		for range 3 {
			var got []session.Item
			for piece := range slices.Chunk(all, many) {
				l := s.Feed(slices.Clone(piece))
				got = append(got, l...)
				for i := range l[:cap(l)] {
					l[:cap(l)][i] = failed(api.ErrBusy)
				}
			}
			rounds = append(rounds, got)
		}
		for _, got := range rounds {
			if !slices.Equal(got, want) {
				t.Fatalf("P2: by %d: %s, not %s", many, told(got), told(want))
			}
		}
	}
}

// TestP2Kept: lists that were answered stay as they are while others are made.
func TestP2Kept(t *testing.T) {
	s := session.New()
	var lists [][]session.Item
	for n := range 200 {
		x := asked(t, sized(13+n))
		lists = append(lists, s.Feed(slices.Concat(x, x, x, x[:n%9])))
		s.Feed(x[n%9:])
		s.Feed(x[:1])
		s.Feed(x[1:])
	}
	for n, l := range lists {
		want := said(sized(13 + n))
		if !slices.Equal(l, []session.Item{want, want, want}) {
			t.Fatalf("P2: list %d was changed by later calls: %s", n, told(l))
		}
	}
}

// TestP3Again: the same calls in the same order answer the same.
func TestP3Again(t *testing.T) {
	for seed := range 200 {
		first := cuts(t, sourceOf(seed).stream(t, 6), 0)
		cuts(t, sourceOf(seed+1000).stream(t, 6), 0)
		again := cuts(t, sourceOf(seed).stream(t, 6), 0)
		if !slices.Equal(first.items, again.items) {
			t.Fatalf("P3: of seed %d: %s, then %s", seed, told(first.items), told(again.items))
		}
	}
}

// TestP4Beside: an item with an error has no request, be there one ahead of it in the list or not.
func TestP4Beside(t *testing.T) {
	full := asked(t, sized(500))
	for _, none := range [][]byte{framed(full[2:400]), framed(append(slices.Clone(full[2:]), 0)), framed([]byte{99}), {0, 0}, {2, 1}, {255, 255}} {
		for _, l := range [][]session.Item{session.New().Feed(none), session.New().Feed(slices.Concat(full, none))} {
			last := l[len(l)-1]
			if last.Err == api.OK || last.Request != (api.Request{}) {
				t.Errorf("P4: beside %v: %+v", last.Err, last.Request)
			}
		}
	}
}

// TestP7Beside: sessions side by side do not see each other: bytes that wait in one, one that is broken.
func TestP7Beside(t *testing.T) {
	a, b, c := made(t), made(t), made(t)
	x, y := asked(t, sized(512)), asked(t, shows("other"))
	for at := range x {
		a.feeds(x[at : at+1])
		b.feeds(y[at%len(y) : at%len(y)+1])
		if at == 100 {
			c.answers([]byte{0, 0}, failed(api.ErrLong))
		}
		c.feeds(y)
	}
	a.is(0, false)
	c.is(0, true)
	d := made(t)
	d.is(0, false)
	d.answers(y, said(shows("other")))
	for seed := range 100 {
		s := sourceOf(seed)
		both := [2]*rig{made(t), made(t)}
		for range 30 {
			all := s.stream(t, 2)
			both[s.IntN(2)].feeds(all[:s.IntN(len(all)+1)])
		}
	}
}

// TestWaysOnce: the buffer is made when bytes first wait, not ahead of that, and never again, whatever comes; a session that is broken needs none.
func TestWaysOnce(t *testing.T) {
	r := made(t)
	room := func() *byte {
		first, many := session.Room(r.s)
		if many > 1024 {
			t.Fatalf("Ways: a buffer of %d bytes", many)
		}
		return first
	}
	x := asked(t, sized(512))
	for range 3 {
		r.feeds(nil)
		r.feeds(x)
		r.feeds(slices.Concat(x, x, framed([]byte{9})))
		if room() != nil {
			t.Fatal("Ways: a buffer ahead of bytes that wait")
		}
	}
	r.feeds(x[:1])
	first := room()
	if first == nil {
		t.Fatal("Ways: bytes wait in no buffer")
	}
	for n := range len(x) * 3 {
		at := (n + 1) % len(x)
		r.feeds(x[at : at+1])
		if room() != first {
			t.Fatal("Ways: another buffer")
		}
	}
	r.feeds(slices.Concat(x[1:], x, x, x[:513]))
	if room() != first {
		t.Fatal("Ways: another buffer")
	}
	r.feeds(slices.Concat(x[513:], []byte{0, 0}, x[:9]))
	if room() != nil {
		t.Fatal("Ways: one that is broken keeps a buffer that it needs no more")
	}
}
