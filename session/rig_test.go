package session_test

import (
	"bytes"
	"encoding/hex"
	"math/rand/v2"
	"slices"
	"strings"
	"testing"

	"toll/api"
	"toll/frame"
	"toll/session"
)

// kinds are all that there are.
var kinds = []int{api.KHold, api.KCommit, api.KRelease, api.KPack, api.KShow, api.KPlan, api.KTenant, api.KChange, api.KClose, api.KTerms}

// wrong are lengths that no frame has.
var wrong = [][]byte{{0, 0}, {2, 1}, {2, 2}, {2, 255}, {3, 0}, {4, 0}, {255, 0}, {255, 255}}

// joined are bytes one behind the other.
func joined(all ...[]byte) []byte { return bytes.Join(all, nil) }

// framed lays bytes behind their length, as P1802 says it; of more than two bytes' worth it may not be asked.
func framed(b []byte) []byte { return joined([]byte{byte(len(b) / 256), byte(len(b) % 256)}, b) }

// asked is a frame of a request.
func asked(t *testing.T, r api.Request) []byte {
	t.Helper()
	b, e := frame.EncodeRequest(r)
	if e != api.OK {
		t.Fatalf("kind %d has no bytes: %v", r.Kind, e)
	}
	return framed(b)
}

// shows is a request of few bytes.
func shows(key string) api.Request { return api.Request{Kind: api.KShow, Key: key} }

// sized is a request of so many bytes, from 13 to 768, each one of its texts another.
func sized(many int) api.Request {
	r := api.Request{Kind: api.KTenant, Plan: api.Plan{Version: 7}}
	rest := many - 13
	for i, text := range []*string{&r.Key, &r.Name, &r.Secret} {
		n := min(rest, 255)
		*text = strings.Repeat(string(rune('a'+i)), n)
		rest -= n
	}
	return r
}

// said is an item without a fault, failed one with nothing else.
func said(r api.Request) session.Item { return session.Item{Request: r} }

func failed(e api.Errno) session.Item { return session.Item{Err: e} }

// reading is what P1901 says of bytes, all of them at once.
type reading struct {
	items  []session.Item
	waits  int
	broken bool
}

// read is the plain reading of the chapter.
func read(all []byte) reading {
	var out reading
	for len(all) >= 2 {
		long := int(all[0])*256 + int(all[1])
		if long < 1 || long > 512 {
			out.items = append(out.items, failed(api.ErrLong))
			out.broken = true
			return out
		}
		if len(all) < 2+long {
			break
		}
		r, e := frame.ParseRequest(slices.Clone(all[2 : 2+long]))
		out.items = append(out.items, session.Item{Request: r, Err: e})
		all = all[2+long:]
	}
	out.waits = len(all)
	return out
}

// rig is a session, and all that it was fed and has answered.
type rig struct {
	t     *testing.T
	s     *session.Session
	fed   []byte
	items []session.Item
}

func made(t *testing.T) *rig { return &rig{t: t, s: session.New()} }

// feeds hands a piece in, in memory of its own that is turned behind the call, and holds what there is then against the plain reading of all that was fed.
func (r *rig) feeds(piece []byte) []session.Item {
	r.t.Helper()
	lent := joined(piece, []byte("spare room"))
	kept := slices.Clone(lent)
	got := r.s.Feed(lent[:len(piece)])
	if !bytes.Equal(lent, kept) {
		r.t.Fatalf("P2: Feed changed what it was handed: %s", short(piece))
	}
	for i := range lent {
		lent[i] ^= 0xA5
	}
	r.fed = append(r.fed, piece...)
	r.items = append(r.items, got...)
	r.stands()
	return got
}

// stands holds all items so far, Waits and Broken against the plain reading.
func (r *rig) stands() {
	r.t.Helper()
	want := read(r.fed)
	if !slices.Equal(r.items, want.items) {
		r.t.Fatalf("P1901: of %s: %s, not %s", short(r.fed), told(r.items), told(want.items))
	}
	if r.s.Waits() != want.waits || r.s.Broken() != want.broken {
		r.t.Fatalf("P1901: behind %d bytes of %s: %d wait, broken %t, not %d, %t", len(r.fed), short(r.fed), r.s.Waits(), r.s.Broken(), want.waits, want.broken)
	}
}

// answers holds what a piece alone brings against what was worked out by hand.
func (r *rig) answers(piece []byte, want ...session.Item) {
	r.t.Helper()
	if got := r.feeds(piece); !slices.Equal(got, want) {
		r.t.Fatalf("P1901: Feed(%s): %s, not %s", short(piece), told(got), told(want))
	}
}

// is holds Waits and Broken against what was worked out by hand, asked twice: to ask changes nothing.
func (r *rig) is(waits int, broken bool) {
	r.t.Helper()
	for range 2 {
		if r.s.Waits() != waits || r.s.Broken() != broken {
			r.t.Fatalf("P1901: %d wait, broken %t, not %d, %t", r.s.Waits(), r.s.Broken(), waits, broken)
		}
	}
}

// cuts feeds bytes to a new session, cut at these places, that rise.
func cuts(t *testing.T, all []byte, at ...int) *rig {
	t.Helper()
	r := made(t)
	from := 0
	for _, to := range append(slices.Clone(at), len(all)) {
		r.feeds(all[from:to])
		from = to
	}
	return r
}

// steps feeds bytes to a new session in pieces of one length, and is spare with what it holds them against: at the end alone.
func steps(t *testing.T, all []byte, many int) {
	t.Helper()
	s := session.New()
	var items []session.Item
	for piece := range slices.Chunk(all, many) {
		items = append(items, s.Feed(piece)...)
	}
	want := read(all)
	if !slices.Equal(items, want.items) || s.Waits() != want.waits || s.Broken() != want.broken {
		t.Fatalf("P1902: %s by %d: %d items, %d wait, broken %t, not %d, %d, %t", short(all), many, len(items), s.Waits(), s.Broken(), len(want.items), want.waits, want.broken)
	}
}

// source is bytes, the same ones each time.
type source struct{ *rand.Rand }

func sourceOf(seed int) source { return source{rand.New(rand.NewPCG(uint64(seed), 19))} }

func (s source) bytes(many int) []byte {
	b := make([]byte, many)
	for i := range b {
		b[i] = byte(s.Uint32())
	}
	return b
}

func (s source) text(most int) string { return string(s.bytes(s.IntN(most + 1))) }

func (s source) request() api.Request {
	kind := kinds[s.IntN(len(kinds))]
	num := func() int { return int(s.Uint64()) }
	switch kind {
	case api.KHold, api.KPack:
		return api.Request{Kind: kind, Key: s.text(30), Id: num(), N: num(), TTL: num()}
	case api.KCommit:
		return api.Request{Kind: kind, Key: s.text(30), Id: num(), Of: num(), N: num()}
	case api.KRelease:
		return api.Request{Kind: kind, Key: s.text(30), Id: num(), Of: num()}
	case api.KShow:
		return shows(s.text(255))
	case api.KPlan:
		return api.Request{Kind: kind, Key: s.text(30), Plan: api.Plan{Name: s.text(30), Version: num(), Allowance: num(), Kind: num(), Anchor: num(), Days: num(), Cap: num(), Mode: num(), Burst: num(), Rate: num()}}
	case api.KTenant:
		return sized(13 + s.IntN(500))
	case api.KChange:
		return api.Request{Kind: kind, Key: s.text(30), Name: s.text(200), Plan: api.Plan{Name: s.text(200), Version: num()}}
	case api.KClose:
		return api.Request{Kind: kind, Key: s.text(30), N: num()}
	}
	return api.Request{Kind: kind, Key: s.text(30), Name: s.text(30), N: num()}
}

// frame is one of a request, or of bytes that are none.
func (s source) frame(t *testing.T) []byte {
	t.Helper()
	b := asked(t, s.request())[2:]
	switch s.IntN(10) {
	case 0:
		return framed(b[:1+s.IntN(len(b))])
	case 1:
		return framed(append(b, s.bytes(512)...)[:min(512, len(b)+1+s.IntN(9))])
	case 2:
		return framed(s.bytes(1 + s.IntN(512)))
	case 3:
		return framed(s.bytes(1 + s.IntN(3)))
	}
	return framed(b)
}

// stream is frames one behind the other; as often as not there is a front of one behind them, or what breaks the session.
func (s source) stream(t *testing.T, most int) []byte {
	t.Helper()
	var all []byte
	for range s.IntN(most + 1) {
		all = append(all, s.frame(t)...)
	}
	switch s.IntN(5) {
	case 0:
		b := s.frame(t)
		all = append(all, b[:s.IntN(len(b))]...)
	case 1:
		all = append(all, wrong[s.IntN(len(wrong))]...)
		all = append(all, s.stream(t, most/2)...)
	case 2:
		all = append(all, s.bytes(s.IntN(40))...)
	}
	return all
}

// places are cuts of bytes, anywhere, and some of them twice.
func (s source) places(all []byte, most int) []int {
	at := make([]int, s.IntN(most+1))
	for i := range at {
		at[i] = s.IntN(len(all) + 1)
	}
	slices.Sort(at)
	return at
}

// told are items as a text.
func told(l []session.Item) string {
	var out strings.Builder
	for _, x := range l {
		out.WriteString(x.Err.Error())
		if x.Request != (api.Request{}) {
			out.WriteString(" " + hex.EncodeToString([]byte{byte(x.Request.Kind)}) + " " + short([]byte(x.Request.Key)))
		}
		out.WriteString("; ")
	}
	if out.Len() == 0 {
		return "no item"
	}
	return out.String()
}

// short is bytes for a message.
func short(b []byte) string {
	if len(b) > 60 {
		return hex.EncodeToString(b[:60]) + ".."
	}
	return hex.EncodeToString(b)
}
