package session_test

import (
	"testing"

	"toll/api"
	"toll/session"
)

// TestP1901Example: the chapter's: a frame in two pieces.
func TestP1901Example(t *testing.T) {
	s := session.New()
	if l := s.Feed([]byte{0, 3, 5}); len(l) != 0 {
		t.Errorf("P1901: of a front: %s", told(l))
	}
	l := s.Feed([]byte{1, 'k'})
	if len(l) != 1 || l[0] != said(shows("k")) {
		t.Errorf("P1901: of the rest: %s", told(l))
	}
}

// TestP1901New: no bytes wait, and it is not broken.
func TestP1901New(t *testing.T) {
	made(t).is(0, false)
}

// TestP1901Each: a frame of each kind, whole: an item with its request.
func TestP1901Each(t *testing.T) {
	for _, want := range []api.Request{
		{Kind: api.KHold, Key: "k", Id: 1, N: 2, TTL: 3},
		{Kind: api.KPack, Key: "k", Id: -1, N: 1 << 60, TTL: 3},
		{Kind: api.KCommit, Key: "k", Id: 1, Of: 2, N: 3},
		{Kind: api.KRelease, Key: "k", Id: 1, Of: 2},
		{Kind: api.KShow},
		{Kind: api.KPlan, Key: "k", Plan: api.Plan{Name: "p", Version: 1, Allowance: 2, Kind: 3, Anchor: 4, Days: 5, Cap: 6, Mode: 7, Burst: 8, Rate: 9}},
		{Kind: api.KTenant, Key: "k", Name: "n", Secret: "s", Plan: api.Plan{Name: "p", Version: 1}},
		{Kind: api.KChange, Key: "k", Name: "n", Plan: api.Plan{Name: "p", Version: 1}},
		{Kind: api.KClose, Key: "k", N: 1},
		{Kind: api.KTerms, Key: "k", Name: "n", N: 1},
	} {
		r := made(t)
		for range 3 {
			r.answers(asked(t, want), said(want))
			r.is(0, false)
		}
	}
}

// TestP1901Nothing: no bytes, nil and empty, bring nothing and change nothing: ahead of the first, while some wait, behind a frame, when it is broken.
func TestP1901Nothing(t *testing.T) {
	r := made(t)
	nothing := func(waits int, broken bool) {
		t.Helper()
		for _, none := range [][]byte{nil, {}, make([]byte, 0, 9), nil} {
			r.answers(none)
			r.is(waits, broken)
		}
	}
	nothing(0, false)
	r.answers([]byte{0})
	nothing(1, false)
	r.answers([]byte{3})
	nothing(2, false)
	r.answers([]byte{5, 1})
	nothing(4, false)
	r.answers([]byte{'k'}, said(shows("k")))
	nothing(0, false)
	r.answers([]byte{0, 3, 5})
	nothing(3, false)
	r.answers([]byte{1, 'l', 0, 0}, said(shows("l")), failed(api.ErrLong))
	nothing(0, true)
}

// TestP1901Many: many frames at once are as many items, in their order; a front of another one behind them waits.
func TestP1901Many(t *testing.T) {
	var all []byte
	var want []session.Item
	for n := range 300 {
		x := api.Request{Kind: api.KHold, Key: "key", Id: n, N: n + 1, TTL: 1 << n % 62}
		all = append(all, asked(t, x)...)
		want = append(want, said(x))
	}
	r := made(t)
	r.answers(all, want...)
	r.is(0, false)
	r.answers(all, want...)
	last := asked(t, sized(200))
	for n := range last {
		r := made(t)
		r.answers(joined(all, last[:n]), want...)
		r.is(n, false)
		r.answers(joined(last[n:], all, last[:1]), append([]session.Item{said(sized(200))}, want...)...)
		r.is(1, false)
	}
}

// TestP1901NoRequest: a frame whose bytes are no request: ParseRequest's error with nothing beside it; what is ahead and behind is told all the same.
func TestP1901NoRequest(t *testing.T) {
	none := map[string]api.Errno{
		"\x05":                  api.ErrCut,
		"\x05\x01":              api.ErrCut,
		"\x01\x01k\x00":         api.ErrCut,
		"\x01\x09k":             api.ErrCut,
		"\x09":                  api.ErrKind,
		"\x00":                  api.ErrKind,
		"\x09\x01k":             api.ErrKind,
		"\xff\xff\xff":          api.ErrKind,
		"\x05\x01kl":            api.ErrMore,
		"\x05\x00\x00":          api.ErrMore,
		"\x05\x01k\x00\x03\x05": api.ErrMore,
	}
	a, b := shows("ahead"), sized(400)
	for text, e := range none {
		x := framed([]byte(text))
		r := made(t)
		r.answers(x, failed(e))
		r.is(0, false)
		r.answers(joined(asked(t, a), x, asked(t, b), x, x, asked(t, a)), said(a), failed(e), said(b), failed(e), failed(e), said(a))
		r.is(0, false)
		r.answers(joined(x, asked(t, b)[:9]), failed(e))
		r.is(9, false)
		r.answers(joined(asked(t, b)[9:], x[:1]), said(b))
		r.answers(joined(x[1:], asked(t, a)), failed(e), said(a))
		r.is(0, false)
	}
}

// TestP1901Sizes: frames of 1 to 512 bytes are whole with their last byte, and not ahead of it.
func TestP1901Sizes(t *testing.T) {
	for many := 1; many <= api.MaxFrame; many++ {
		var x []byte
		var want session.Item
		switch {
		case many >= 13:
			x, want = asked(t, sized(many)), said(sized(many))
		case many >= 2:
			x, want = asked(t, shows("0123456789"[:many-2])), said(shows("0123456789"[:many-2]))
		default:
			x, want = framed([]byte{5}), failed(api.ErrCut)
		}
		if len(x) != many+2 {
			t.Fatalf("a frame of %d bytes, not %d", len(x), many+2)
		}
		made(t).answers(x, want)
		r := made(t)
		r.answers(x[:many+1])
		r.is(many+1, false)
		r.answers(x[many+1:], want)
		r.is(0, false)
		r.answers(joined(x, x, x[:2]), want, want)
		r.is(2, false)
		r.answers(joined(x[2:], x), want, want)
	}
}

// TestP1901Longest: a frame of 512 bytes, with what waits written out: all but its last byte are 513.
func TestP1901Longest(t *testing.T) {
	x := asked(t, sized(api.MaxFrame))
	r := made(t)
	for n := range 513 {
		r.answers(x[n : n+1])
		r.is(n+1, false)
	}
	r.answers(x[513:], said(sized(api.MaxFrame)))
	r.is(0, false)
	r = made(t)
	r.answers(x[:513])
	r.is(513, false)
	r.answers(joined(x[513:], x[:513]), said(sized(api.MaxFrame)))
	r.is(513, false)
	r.answers(joined(x[513:], x, x, x[:1]), said(sized(512)), said(sized(512)), said(sized(512)))
	r.is(1, false)
}

// TestP1901Zeros: a frame of 512 noughts is none that breaks a session: its length alone counts.
func TestP1901Zeros(t *testing.T) {
	for _, x := range []byte{0, 2, 255} {
		b := make([]byte, 512)
		for i := range b {
			b[i] = x
		}
		e := api.ErrKind
		if x == api.KCommit { // its first byte is a kind's: its key's bytes and three numbers are there, and more behind
			e = api.ErrMore
		}
		r := made(t)
		r.answers(joined(framed(b), asked(t, shows("k"))), failed(e), said(shows("k")))
		r.is(0, false)
		cuts(t, joined(framed(b), asked(t, shows("k"))), 1, 2, 3, 500)
	}
}

// lengthBytes are a length as a frame says it.
func lengthBytes(long int) []byte { return []byte{byte(long >> 8), byte(long)} }

// TestP1901Lengths: of each length that two bytes say: those of 1 to 512 wait for their bytes, all others are ErrLong at once.
func TestP1901Lengths(t *testing.T) {
	for long := range 1 << 16 {
		r := made(t)
		if long >= 1 && long <= api.MaxFrame {
			r.answers(lengthBytes(long))
			r.is(2, false)
		} else {
			r.answers(lengthBytes(long), failed(api.ErrLong))
			r.is(0, true)
		}
		r = made(t)
		r.answers(lengthBytes(long)[:1])
		r.is(1, false)
		r.feeds(lengthBytes(long)[1:])
	}
}

// TestP1901Broken: an item with ErrLong and nothing beside it as soon as both bytes of the length are there; what came ahead is told, nothing behind, in that piece and in later ones.
func TestP1901Broken(t *testing.T) {
	a, b := shows("a"), sized(300)
	for _, x := range wrong {
		for _, behind := range [][]byte{nil, {0}, {1}, asked(t, b), joined(x, x), make([]byte, 5000)} {
			r := made(t)
			r.answers(joined(asked(t, a), asked(t, b), x, behind), said(a), said(b), failed(api.ErrLong))
			isOver(r)
			r = made(t)
			r.answers(joined(x, behind), failed(api.ErrLong))
			isOver(r)
			r = made(t)
			r.answers(joined(asked(t, a), x[:1]), said(a))
			r.is(1, false)
			r.answers(joined(x[1:], behind), failed(api.ErrLong))
			isOver(r)
			r = made(t)
			r.answers(asked(t, b)[:100])
			r.answers(joined(asked(t, b)[100:], asked(t, a), x, behind), said(b), said(a), failed(api.ErrLong))
			isOver(r)
		}
	}
}

// isOver: nothing more comes of it, whatever it is fed, and it stays so.
func isOver(r *rig) {
	r.t.Helper()
	r.is(0, true)
	for _, more := range [][]byte{asked(r.t, shows("c")), {0}, {3}, {5, 0}, {0, 0}, {255, 255}, nil, make([]byte, 2000), asked(r.t, sized(512))} {
		r.answers(more)
		r.is(0, true)
	}
}

// TestP1901Far: pieces far longer than MaxFrame.
func TestP1901Far(t *testing.T) {
	var unit []byte
	for n := range 40 {
		unit = append(unit, asked(t, sized(13+(n*37)%500))...)
	}
	var all []byte
	for len(all) < 1<<21 {
		all = append(all, unit...)
	}
	r := made(t)
	r.feeds(all)
	r.is(0, false)
	r.feeds(unit[:777])
	r.feeds(joined(unit[777:], unit, unit[:3]))
	r.is(3, false)
	r.feeds(joined(unit[3:], []byte{9, 9}, all))
	r.is(0, true)
}
