package tower_test

import (
	"strings"
	"testing"

	"toll/api"
	"toll/disk"
	"toll/frame"
)

const (
	day   = 1440
	last  = 4000000000 // tick
	bound = 64         // pages, for which there must be room
)

var (
	longName = strings.Repeat("z", 24)
	badNames = []string{"", "A", "a b", " ", "a!", "a\x00", "é", longName + "z", strings.Repeat("a", 999), "\xff", "a_", "a\n"}
	badTicks = []int{-1, -1 << 63, last + 1, 1<<63 - 1}

	// Lengths that no frame has.
	badHeads = [][]byte{{0, 0}, {2, 1}, {2, 2}, {2, 255}, {3, 0}, {4, 0}, {128, 0}, {255, 255}}
)

func newDisk(t testing.TB, blocks int) *disk.Disk {
	t.Helper()
	d, e := disk.New(blocks)
	if e != api.OK {
		t.Fatalf("P201: New(%d): %v", blocks, e)
	}
	return d
}

// copyOf is another disk with the same blocks.
func copyOf(t testing.TB, d *disk.Disk) *disk.Disk {
	t.Helper()
	other := newDisk(t, d.Blocks())
	for n := range d.Blocks() {
		b, e := d.Read(n)
		if e != api.OK || other.Write(n, b) != api.OK {
			t.Fatalf("P202: Read(%d): %v", n, e)
		}
	}
	return other
}

// kill lets the power go without a call of the tower's: by a write that is not done.
func kill(d *disk.Disk) {
	d.Cut(0)
	d.Write(0, make([]byte, api.Block))
}

// byDays is a plan that throttles nobody soon.
func byDays(name string, version, days, allowance int) api.Plan {
	return api.Plan{Name: name, Version: version, Allowance: allowance, Kind: api.TDays, Days: days, Cap: allowance / 4, Burst: 900, Rate: 200}
}

// rated is one that lets so many pass.
func rated(name string, version, burst, rate int) api.Plan {
	p := byDays(name, version, 10, 100)
	p.Burst, p.Rate = burst, rate
	return p
}

// The admin's requests: its key is root.
func adds(p api.Plan) api.Request { return api.Request{Kind: api.KPlan, Key: "root", Plan: p} }

// tenant is one whose key is k and its name.
func tenant(name, of string, version int) api.Request {
	return api.Request{Kind: api.KTenant, Key: "root", Name: name, Secret: "k" + name, Plan: api.Plan{Name: of, Version: version}}
}

func change(name, of string, version int) api.Request {
	return api.Request{Kind: api.KChange, Key: "root", Name: name, Plan: api.Plan{Name: of, Version: version}}
}

func closes(n int) api.Request { return api.Request{Kind: api.KClose, Key: "root", N: n} }

func terms(name string, n int) api.Request {
	return api.Request{Kind: api.KTerms, Key: "root", Name: name, N: n}
}

// A tenant's requests.
func hold(name string, id, n int) api.Request {
	return api.Request{Kind: api.KHold, Key: "k" + name, Id: id, N: n, TTL: 700}
}

func commit(name string, id, of, n int) api.Request {
	return api.Request{Kind: api.KCommit, Key: "k" + name, Id: id, Of: of, N: n}
}

func release(name string, id, of int) api.Request {
	return api.Request{Kind: api.KRelease, Key: "k" + name, Id: id, Of: of}
}

func pack(name string, id, n, ttl int) api.Request {
	return api.Request{Kind: api.KPack, Key: "k" + name, Id: id, N: n, TTL: ttl}
}

func shows(name string) api.Request { return api.Request{Kind: api.KShow, Key: "k" + name} }

// framed lays bytes behind their length, as chapter 18 says it.
func framed(b []byte) []byte { return append([]byte{byte(len(b) / 256), byte(len(b) % 256)}, b...) }

// frames are requests', one behind the other.
func frames(t testing.TB, l ...api.Request) []byte {
	t.Helper()
	var all []byte
	for _, q := range l {
		b, e := frame.EncodeRequest(q)
		if e != api.OK {
			t.Fatalf("P1801: %+v: %v", q, e)
		}
		all = append(all, framed(b)...)
	}
	return all
}

// said is what a frame says: a request, or why it says none.
type said struct {
	q api.Request
	e api.Errno
}

// read is the plain reading of bytes, as chapter 19 says it: what the whole frames say, what waits behind them, whether the session breaks.
func read(all []byte) (l []said, rest []byte, broken bool) {
	for len(all) >= 2 {
		long := int(all[0])*256 + int(all[1])
		if long < 1 || long > 512 {
			return append(l, said{e: api.ErrLong}), nil, true
		}
		if len(all) < 2+long {
			break
		}
		q, e := frame.ParseRequest(all[2 : 2+long])
		l = append(l, said{q, e})
		all = all[2+long:]
	}
	return l, all, false
}

// written are answers' frames, one behind the other.
func written(l ...api.Answer) []byte {
	var all []byte
	for _, x := range l {
		all = append(all, framed(frame.EncodeAnswer(x))...)
	}
	return all
}

// parsed are the answers that frames say.
func parsed(t testing.TB, all []byte) []api.Answer {
	t.Helper()
	var l []api.Answer
	for len(all) > 0 {
		if len(all) < 2 || len(all) < 2+int(all[0])*256+int(all[1]) {
			t.Fatalf("P2102: a frame that is cut off: %x", all)
		}
		long := int(all[0])*256 + int(all[1])
		x, e := frame.ParseAnswer(all[2 : 2+long])
		if e != api.OK {
			t.Fatalf("P2102: no answer: %x: %v", all[2:2+long], e)
		}
		l = append(l, x)
		all = all[2+long:]
	}
	return l
}

// told is an answer that has nothing but N.
func told(n int) api.Answer { return api.Answer{N: n} }

// atEnd is the answer of a run that is at its end.
func atEnd(n int) api.Answer { return api.Answer{N: n, Left: 1} }
