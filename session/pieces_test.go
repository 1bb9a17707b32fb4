package session_test

import (
	"slices"
	"testing"

	"toll/api"
	"toll/session"
)

// mixed is frames of all sorts, not too many.
func mixed(t *testing.T) []byte {
	t.Helper()
	return joined(
		asked(t, shows("a")),
		framed([]byte{9}),
		asked(t, api.Request{Kind: api.KHold, Key: "key", Id: 1 << 40, N: -1, TTL: 2}),
		framed([]byte{5}),
		framed([]byte{5, 0, 0}),
		asked(t, sized(40)),
		asked(t, shows("")),
	)
}

// endings are what may stand behind frames: nothing, a front of one, what breaks the session.
func endings() [][]byte {
	return [][]byte{nil, {0}, {2}, {255}, {0, 9, 5, 1}, {2, 0, 5}, {0, 0}, {2, 1, 0, 2, 5, 0}, {255, 255, 0, 2, 5, 0}}
}

// TestP1902Two: a cut at every place, within the bytes of a length too.
func TestP1902Two(t *testing.T) {
	for _, end := range endings() {
		all := joined(mixed(t), end)
		for at := range len(all) + 1 {
			cuts(t, all, at)
		}
	}
	for _, many := range []int{1, 2, 255, 256, 257, 511, 512} {
		all := joined(framed(make([]byte, many)), asked(t, shows("k")))
		for at := range len(all) + 1 {
			cuts(t, all, at)
		}
	}
}

// TestP1902Three: cuts at every two places.
func TestP1902Three(t *testing.T) {
	for _, end := range [][]byte{nil, {0, 0, 0}, {0, 9, 5}} {
		all := joined(mixed(t), end)
		for to := range len(all) + 1 {
			for from := range to + 1 {
				cuts(t, all, from, to)
			}
		}
	}
}

// TestP1902Frame: one frame in pieces of all lengths; it is told with its last byte, once, and by nothing else.
func TestP1902Frame(t *testing.T) {
	for _, want := range []api.Request{shows(""), shows("k"), sized(255), sized(256), sized(511), sized(512)} {
		x := asked(t, want)
		for many := 1; many <= len(x); many++ {
			s := session.New()
			for at := 0; at < len(x); at += many {
				end := min(at+many, len(x))
				l := s.Feed(x[at:end])
				if end < len(x) && (len(l) != 0 || s.Waits() != end) {
					t.Fatalf("P1902: behind %d of %d bytes: %s, %d wait", end, len(x), told(l), s.Waits())
				}
				if end == len(x) && (!slices.Equal(l, []session.Item{said(want)}) || s.Waits() != 0) {
					t.Fatalf("P1902: of %d bytes by %d: %s, %d wait", len(x), many, told(l), s.Waits())
				}
			}
		}
	}
}

// TestP1902Bytes: byte by byte, and with no bytes between.
func TestP1902Bytes(t *testing.T) {
	for _, end := range endings() {
		r := made(t)
		for _, x := range joined(mixed(t), end) {
			r.feeds([]byte{x})
			r.feeds(nil)
		}
	}
}

// TestP1902Steps: long streams in pieces of one length, each about a frame's bounds and others.
func TestP1902Steps(t *testing.T) {
	for seed := range 40 {
		all := sourceOf(seed).stream(t, 300)
		for _, many := range []int{1, 2, 3, 5, 7, 64, 255, 256, 257, 511, 512, 513, 514, 515, 516, 1024, 1028, 4096, 1 << 20} {
			steps(t, all, many)
		}
	}
}

// TestP1902Any: any bytes and any cuts.
func TestP1902Any(t *testing.T) {
	for seed := range 4000 {
		s := sourceOf(seed)
		all := s.stream(t, 8)
		cuts(t, all, s.places(all, 12)...)
	}
	for seed := range 4000 {
		s := sourceOf(seed)
		all := s.bytes(s.IntN(1200))
		for i := 0; i < len(all); i += 1 + s.IntN(30) { // noughts, so that some lengths may be
			all[i] = byte(s.IntN(3))
		}
		cuts(t, all, s.places(all, 6)...)
	}
}

// FuzzPieces cuts bytes as others say, and holds what is told behind each piece against the plain reading of all bytes so far.
func FuzzPieces(f *testing.F) {
	f.Add([]byte{0, 3, 5, 1, 'k', 0, 2, 5, 0}, []byte{3})
	f.Add([]byte{0, 1, 9, 0, 1, 5, 0, 3, 5, 0, 0, 0, 2, 5, 0, 2, 1, 0, 2, 5, 0}, []byte{1, 1, 1, 5, 0, 2})
	f.Add([]byte{2, 0, 5, 255}, []byte{1})
	f.Add(append([]byte{2, 0}, make([]byte, 520)...), []byte{200, 200, 113, 1})
	f.Add([]byte{0, 0, 0, 2, 5, 0}, []byte{1, 0, 1, 0, 1})
	f.Fuzz(func(t *testing.T, all, lengths []byte) {
		r := made(t)
		for _, many := range lengths {
			n := min(int(many), len(all))
			r.feeds(all[:n])
			all = all[n:]
		}
		r.feeds(all)
	})
}
