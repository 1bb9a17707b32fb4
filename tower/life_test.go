package tower_test

import (
	"maps"
	"slices"
	"testing"

	"toll/api"
)

// life is a rig whose connections have clients: what they have to say goes out in pieces, by turns; where it was cut off they say it again.
type life struct {
	*rig
	dice        *dice
	burst, rate int // of all plans, so that T7 can be asked for them
	modes       []int
	outs        map[int][]byte // what is still to be sent, by connections
	asked       []api.Request  // all that tenants have asked for
	lasts       map[string]int // the greatest number of each tenant's requests
	said        []api.Answer   // all answers, in order
}

func begun(t testing.TB, d *dice, blocks int, modes ...int) *life {
	t.Helper()
	l := &life{rig: newRig(t, blocks, d.roll(200)*day/3), dice: d, modes: modes, outs: map[int][]byte{}, lasts: map[string]int{}}
	l.burst, l.rate = pick(d, 6, 1, 40, 900), pick(d, 2, 1, 7, 100)
	conn := l.connect()
	for i := range 2 + d.roll(4) {
		q := tenant(string(rune('a'+i-2)), pick(d, "p", "q"), 1)
		if i < 2 {
			q = adds(l.plan([]string{"p", "q"}[i], 1))
		}
		l.asks(conn, q)
	}
	return l
}

// plan is one of any sort.
func (l *life) plan(name string, version int) api.Plan {
	d := l.dice
	p := api.Plan{Name: name, Version: version, Allowance: pick(d, 100, 0, 7, 31, 1000), Cap: pick(d, 0, 5, 40, 1000), Mode: pick(d, l.modes...), Burst: l.burst, Rate: l.rate}
	if d.roll(4) == 0 {
		p.Kind, p.Anchor = api.TMonth, 1+d.roll(31)
	} else {
		p.Kind, p.Days = api.TDays, 1+d.roll(4)
	}
	return p
}

// ofTenant is a tenant's next request: mostly one that may be, and new.
func (l *life) ofTenant() api.Request {
	d, name := l.dice, string(rune('a'+l.dice.roll(5)))
	if there := l.p.names(); len(there) > 0 && d.roll(16) > 0 {
		name = pick(d, there...)
	}
	q := api.Request{Key: "k" + name, Kind: pick(d, api.KHold, api.KHold, api.KHold, api.KCommit, api.KCommit, api.KCommit, api.KRelease, api.KPack, api.KShow)}
	q.Id = l.lasts[name] + 1 + d.roll(3)
	if d.roll(6) == 0 { // one that was there, or is between such, or is none
		q.Id = pick(d, 0, -1, 1, 2, l.lasts[name], l.lasts[name]-1, l.lasts[name]-3, l.lasts[name]-9, l.lasts[name]-20, 1<<40+1)
	}
	if q.Id < 1<<39 {
		l.lasts[name] = max(l.lasts[name], q.Id)
	}
	q.N = pick(d, 1, 2, 3, 5, 7, 9, 12, 20, 40, 60, 200, 900, 0, -1, api.MaxUnits+1)
	q.TTL = pick(d, 1, 5, 30, 500, 3000, 3000, 3000, 9999, 9999, api.MaxTTL, 0)
	q.Of = d.roll(l.lasts[name] + 2)
	if a := l.p.accounts[name]; len(a.Holds) > 0 && d.roll(5) > 0 {
		h := a.Holds[d.roll(len(a.Holds))]
		q.Of = h.Id
		q.N = pick(d, 1, q.N, h.Over)
	}
	l.asked = append(l.asked, q)
	return q
}

// ofAdmin is the admin's next one, mostly one that may be.
func (l *life) ofAdmin() api.Request {
	d, name, of := l.dice, string(rune('a'+l.dice.roll(6))), pick(l.dice, "p", "q", "r")
	last := l.p.last(of)
	switch d.roll(8) {
	case 0:
		return adds(l.plan(of, last+pick(d, 1, 1, 1, 0, 2)))
	case 1:
		return tenant(name, of, 1+d.roll(last+1))
	case 2, 3:
		return change(name, of, 1+d.roll(last+1))
	case 4:
		return terms(name, d.roll(5))
	case 5:
		return api.Request{Kind: pick(d, api.KShow, api.KHold, api.KPlan, api.KClose), Key: pick(d, "root", "ka", "x", ""), N: 1}
	}
	return closes(pick(d, 1, 1, 2, 3, 5, 100, 0))
}

// says is what a client says next: a request, or one that was said ahead, or bytes that are none.
func (l *life) says() []byte {
	d := l.dice
	switch d.roll(32) {
	case 0:
		b := frames(l.t, l.ofTenant())[2:]
		return framed(b[:1+d.roll(len(b))])
	case 1:
		return framed(append(frames(l.t, l.ofAdmin())[2:], make([]byte, 1+d.roll(200))...))
	case 2:
		b := frames(l.t, l.ofTenant())
		b[2+d.roll(len(b)-2)] = byte(d.roll(256))
		return b
	case 3:
		if d.roll(3) == 0 {
			return pick(d, badHeads...)
		}
		return framed([]byte{byte(d.roll(256)), byte(d.roll(4))})
	case 4, 5, 6, 7, 8, 9:
		return frames(l.t, l.ofAdmin())
	case 10, 11, 12, 13:
		if len(l.asked) > 0 {
			return frames(l.t, l.asked[max(0, len(l.asked)-1-d.roll(20))])
		}
	}
	return frames(l.t, l.ofTenant())
}

// anyConn is a connection that is there, mostly.
func (l *life) anyConn() int {
	if there := slices.Sorted(maps.Keys(l.waits)); len(there) > 0 && l.dice.roll(20) > 0 {
		return pick(l.dice, there...)
	}
	return l.dice.roll(l.last + 2)
}

// step goes on as the dice say.
func (l *life) step() {
	l.t.Helper()
	d := l.dice
	switch d.roll(24) {
	case 0, 1, 2:
		l.ticks(min(l.p.now+pick(d, 0, 1, 1, 1, 2, 5, 60, 500, day, 3*day, 9*day, -1), last+1))
	case 3:
		l.connects()
	case 4:
		conn := l.anyConn()
		l.breaks(conn)
		l.moves(conn)
	case 5:
		if d.roll(3) == 0 {
			l.opens()
			l.ends()
		}
	case 6:
		l.d.Cut(d.roll(60))
	case 7:
		l.d.Cut(-1)
	case 8:
		if d.roll(3) == 0 {
			kill(l.rig.d)
		}
	default:
		l.sends(l.anyConn(), pick(d, 1, 2, 5, 9, 30, 31, 32, 33, 60, 120, 999))
	}
	if l.d.Dead() {
		l.crashes()
	}
}

func (l *life) connects() {
	l.t.Helper()
	for range 1 + l.dice.roll(4) {
		l.tries()
	}
}

// moves lets what a client has not sent yet go out on another connection from its beginning, or be forgotten.
func (l *life) moves(conn int) {
	if there := slices.Sorted(maps.Keys(l.waits)); len(there) > 0 && l.dice.roll(2) == 0 {
		to := pick(l.dice, there...)
		l.outs[to] = append(l.outs[to], l.outs[conn]...)
	}
	delete(l.outs, conn)
}

// sends sends so many bytes at most of what is to be sent. Where the rig could not tell what all of them come to it sends them frame by frame.
func (l *life) sends(conn, most int) {
	l.t.Helper()
	if len(l.outs[conn]) == 0 {
		for range 1 + l.dice.roll(4) {
			l.outs[conn] = append(l.outs[conn], l.says()...)
		}
	}
	b := l.outs[conn][:min(most, len(l.outs[conn]))]
	l.outs[conn] = l.outs[conn][len(b):]
	if l.plenty(conn, b) {
		l.hears(l.feed(conn, b))
		return
	}
	for i := range b {
		l.hears(l.feed(conn, b[i:i+1]))
	}
}

func (l *life) hears(x []api.Answer, _ api.Errno) { l.said = append(l.said, x...) }

// crashes starts a tower whose power went; who was cut off says it again, or not.
func (l *life) crashes() {
	l.t.Helper()
	l.ticks(l.p.now + 1)
	l.tries()
	conn := l.anyConn()
	l.feed(conn, frames(l.t, shows("a")))
	l.breaks(conn)
	lost := l.lost
	l.starts(l.p.now + l.dice.roll(2))
	l.outs, l.lost = map[int][]byte{}, nil
	l.connects()
	if l.dice.roll(4) > 0 {
		l.outs[1] = frames(l.t, lost...)
		l.ticks(l.p.now + 1)
		l.sends(1, 9999)
	}
}

// ends holds what there is in the end, or behind an opening, against the theorems.
func (l *life) ends() {
	l.t.Helper()
	l.outs = map[int][]byte{}
	l.deep()
}

// lives is a whole life, as the dice say.
func lives(t testing.TB, d dice, blocks int, modes ...int) *life {
	t.Helper()
	l := begun(t, &d, blocks, modes...)
	for len(d) > 0 {
		l.step()
	}
	l.dies()
	return l
}

// dies is a life's end.
func (l *life) dies() {
	l.t.Helper()
	l.d.Cut(-1)
	l.ends()
	for _, name := range l.x.Names() {
		isThrottled(l.t, l.passed[name], l.burst, l.rate)
	}
}

// TestP2104Lives: T1 to T7 over lives drawn at random, the power going anywhere, on great disks and on such as are full soon or at once.
func TestP2104Lives(t *testing.T) {
	for seed := range 400 {
		lives(t, thrown(2400, uint64(seed)*977+3), []int{900, 400, 150, 110, 95, 80, 70, 64}[seed%8], api.MHard, api.MOver)
	}
}

// TestP2104Long: few, but long ones.
func TestP2104Long(t *testing.T) {
	for seed := range 8 {
		l := lives(t, thrown(30000, uint64(seed)*31+5), 1500, api.MHard, api.MHard, api.MOver)
		if l.p.commits < 300 {
			t.Errorf("P2104: only %d transactions", l.p.commits)
		}
	}
}

// TestT3Hard: where all plans are hard nothing is ever over.
func TestT3Hard(t *testing.T) {
	for seed := range 60 {
		l := lives(t, thrown(1500, uint64(seed)*13+9), 600, api.MHard)
		for name, a := range l.p.accounts {
			if a.Over != 0 {
				t.Fatalf("T3: %s has %d over", name, a.Over)
			}
		}
		for at, s := range l.p.told {
			if s.Over != 0 {
				t.Fatalf("T3: %v had %d over", at, s.Over)
			}
		}
	}
}

// FuzzLives looks for lives that P2101 to P2104 do not hold for.
func FuzzLives(f *testing.F) {
	f.Add([]byte{}, uint16(100))
	f.Add([]byte(thrown(300, 3)), uint16(64))
	f.Add([]byte(thrown(600, 4)), uint16(120))
	f.Add([]byte(thrown(900, 5)), uint16(500))
	f.Fuzz(func(t *testing.T, b []byte, blocks uint16) {
		lives(t, dice(b[:min(len(b), 2000)]), 64+int(blocks%500), api.MHard, api.MOver)
	})
}

// FuzzBytes looks for bytes, in pieces of any lengths, on connections by turns, that P2102 does not hold for.
func FuzzBytes(f *testing.F) {
	b, _ := mixed(f)
	f.Add(b, []byte{9, 200, 1, 60})
	f.Add(frames(f, hold("a", 1, 30), shows("b"), closes(3), terms("a", 1), commit("a", 2, 1, 9), change("b", "q", 2)), []byte{255})
	f.Add(slices.Concat(frames(f, adds(byDays("r", 1, 7, 70)), tenant("e", "r", 1), release("c", 1, 1)), framed([]byte{5}), badHeads[0]), []byte{1, 2, 3, 4, 5, 6, 7})
	f.Fuzz(func(t *testing.T, all, lengths []byte) {
		r := cast(t, 600)
		r.ticks(11)
		for i, many := range append(lengths, 255) {
			n := min(int(many), len(all))
			conn := 1 + i%3
			r.tries()
			if r.plenty(conn, all[:n]) {
				r.feed(conn, all[:n])
			}
			all = all[n:]
		}
		r.deep()
	})
}
