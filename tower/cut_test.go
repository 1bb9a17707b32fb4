package tower_test

import (
	"maps"
	"slices"
	"testing"

	"toll/api"
)

// busy is a rig with something of everything: many terms that are over, a run of closings that is on, a tenant with many lots, holds and answers that are kept.
func busy(t testing.TB, blocks int) *rig {
	t.Helper()
	r := cast(t, blocks)
	r.did(1, hold("a", 1, 30), hold("b", 1, 50), commit("b", 2, 1, 20), pack("c", 1, 9, 90000))
	r.ticks(11 * day)
	r.did(1, closes(2), tenant("new", "q", 2))
	r.ticks(12*day + 5)
	r.did(1, hold("new", 5, 9))
	for n := range 8 {
		r.did(1, pack("new", 10+n, 3, 9000))
		r.did(1, hold("new", 20+n, 2))
	}
	return r
}

// mark is how far a rig came: writes, transactions.
type mark struct{ writes, commits int }

func (r *rig) mark() mark { return mark{r.d.Writes(), r.x.Commits()} }

// from is how far it came since.
func (m mark) from(was mark) mark { return mark{m.writes - was.writes, m.commits - was.commits} }

// paced sends requests one by one, to a rig of its own, a tick later: how far it comes behind each, beginning with none, and the answers.
func (r *rig) paced(l []api.Request) ([]mark, []api.Answer) {
	r.t.Helper()
	c := r.copy()
	c.ticks(c.p.now + 1)
	conn, begin := c.connect(), c.mark()
	marks := []mark{{}}
	var x []api.Answer
	for _, q := range l {
		x = append(x, c.asks(conn, q)...)
		marks = append(marks, c.mark().from(begin))
	}
	return marks, x
}

// cutsAll sends requests all at once, and lets the power go at each write: what was done ahead of the one that was cut off is there then, of that one all or nothing (of a run of closings term by term), nothing of those behind; sent again all are done, once, and answered alike.
func cutsAll(t *testing.T, what string, first *rig, l ...api.Request) {
	t.Helper()
	marks, want := first.paced(l)
	whole := marks[len(l)].writes
	if whole < 2*len(l)/3 {
		t.Fatalf("%s: only %d writes", what, whole)
	}
	b := frames(t, l...)
	ends := map[int]bool{}
	for cut := range whole {
		r := first.copy()
		r.ticks(first.p.now + 1)
		conn := r.connect()
		r.d.Cut(cut)
		if x, e := r.feed(conn, b); e != api.ErrDead || len(x) != 0 {
			t.Fatalf("P2102: %s, cut off behind %d writes: %+v, %v", what, cut, x, e)
		}
		r.isDead(conn)
		at := 0
		for marks[at+1].writes <= cut {
			at++
		}
		done := r.starts(r.p.now)
		if done < marks[at].commits || done > marks[at+1].commits {
			t.Fatalf("T2: %s, cut off behind %d writes, in request %d: %d transactions, not %d to %d", what, cut, at, done, marks[at].commits, marks[at+1].commits)
		}
		ends[done] = true
		r.again(what, l, want)
	}
	if len(ends) != marks[len(l)].commits { // a transaction's last write makes it: cut off there it is not done
		t.Errorf("T2: %s was cut off behind %v transactions", what, ends)
	}
}

// isDead holds a tower within whose request the power went.
func (r *rig) isDead(conn int) {
	r.t.Helper()
	r.feed(conn, nil)
	r.feed(conn, frames(r.t, shows("a")))
	r.tries()
	r.ticks(r.p.now)
	r.feed(conn+1, nil)
	r.breaks(conn)
	r.breaks(conn)
}

// again sends requests once more, on two connections, to a tower that was opened anew: those of tenants are answered as first.
func (r *rig) again(what string, l []api.Request, want []api.Answer) {
	r.t.Helper()
	r.ticks(r.p.now + 1)
	for range 2 {
		conn := r.connect()
		for i, x := range r.asks(conn, l...) {
			if l[i].Kind < api.KShow && x != want[i] {
				r.t.Fatalf("T5: %s: %+v: %+v, but first %+v", what, l[i], x, want[i])
			}
		}
		r.breaks(conn)
	}
	r.deep()
}

// TestT2Alone: each kind of request that writes, cut off at each write.
func TestT2Alone(t *testing.T) {
	first := busy(t, 700)
	for what, q := range map[string]api.Request{
		"KHold": hold("new", 30, 8), "KHold, refused": hold("a", 30, 8000), "KCommit": commit("new", 30, 5, 4), "KCommit, of none": commit("new", 30, 99, 4),
		"KRelease": release("new", 30, 20), "KPack": pack("new", 30, 7, 70), "KPack, of none": pack("a", 30, 0, 0),
		"KPlan, new": adds(byDays("r", 1, 7, 70)), "KPlan, next": adds(byDays("p", 2, 7, 70)), "KTenant": tenant("newer", "q", 1), "KChange": change("new", "p", 1),
	} {
		cutsAll(t, what, first, q)
	}
}

// TestT2Piped: requests that come all at once, of all kinds, cut off at each write; a connection that is broken behind them.
func TestT2Piped(t *testing.T) {
	first := busy(t, 3000)
	cutsAll(t, "of tenants", first, hold("new", 30, 8), hold("a", 31, 60), shows("a"), hold("a", 32, 8000), commit("new", 31, 5, 4), pack("b", 31, 9, 99), commit("a", 33, 31, 20), release("new", 32, 30), hold("nobody", 1, 1), release("b", 32, 99), hold("new", 30, 8))
	cutsAll(t, "of both", first, adds(byDays("r", 1, 7, 70)), hold("b", 31, 7), tenant("newer", "r", 1), tenant("newer", "r", 1), terms("a", 1), pack("c", 31, 9, 99), adds(byDays("p", 9, 1, 1)), change("new", "r", 1))
}

// TestT2BrokenToo: where the power goes within a request, and the session breaks behind it, the connection is there no more either.
func TestT2BrokenToo(t *testing.T) {
	first := busy(t, 700)
	for _, head := range badHeads {
		r := first.copy()
		r.ticks(r.p.now + 1)
		conn, other := r.connect(), r.connect()
		r.d.Cut(1)
		if _, e := r.feed(conn, slices.Concat(frames(t, hold("b", 31, 7), shows("a")), head)); e != api.ErrDead {
			t.Fatalf("P2102: %v", e)
		}
		if e := r.breaks(conn); e != api.ErrNone {
			t.Errorf("P2101: Break: %v", e)
		}
		if e := r.breaks(other); e != api.OK {
			t.Errorf("P2101: Break of the other one: %v", e)
		}
	}
}

// TestT2Late: the power goes when a request's last byte comes, and was to go ahead of that, but nothing was written: then what came in pieces is lost with its connection.
func TestT2Late(t *testing.T) {
	first := cast(t, 600)
	b := frames(t, hold("a", 1, 30), hold("a", 2, 20))
	half := len(b) / 2
	for at := half; at < len(b); at++ {
		r := first.copy()
		r.ticks(11)
		conn := r.connect()
		if x, e := r.feed(conn, b[:at]); e != api.OK || !slices.Equal(x, []api.Answer{{Left: 70, N: 30}}) {
			t.Fatalf("P2102: the front of %d bytes: %+v, %v", at, x, e)
		}
		r.d.Cut(0)
		r.feed(conn, nil)
		r.asks(r.connect(), shows("a"), shows("nobody"))
		if _, e := r.feed(conn, b[at:]); e != api.ErrDead {
			t.Fatalf("P2102: the rest behind %d bytes: %v", at, e)
		}
		if done := r.starts(11); done != 0 {
			t.Fatalf("T2: %d transactions, and no write", done)
		}
		r.ticks(12)
		next := r.connect()
		if x, e := r.feed(next, b); e != api.OK || !slices.Equal(x, []api.Answer{{Left: 70, N: 30}, {Left: 50, N: 20}}) {
			t.Fatalf("T5: sent again: %+v, %v", x, e)
		}
		r.deep()
	}
}

// TestT6Cuts: runs of closings that are cut off at each write, and run again, as often as it needs: the whole is as one run alone.
func TestT6Cuts(t *testing.T) {
	first := busy(t, 1500)
	first.ticks(17 * day)
	for _, most := range []int{1, 3, 100} {
		one := first.copy()
		conn, begin := one.connect(), one.mark()
		for one.asks(conn, closes(most))[0].Left == 0 {
		}
		whole := one.mark().from(begin)
		for cut := 0; cut < whole.writes; cut += 1 + most/50 {
			r := first.copy()
			r.d.Cut(cut)
			r.closesAll(most)
			r.deep()
			r.sameAs(one, "T6")
			if !maps.Equal(r.p.told, one.p.told) {
				t.Fatalf("T6: cut off behind %d writes: the statements %+v, not %+v", cut, r.p.told, one.p.told)
			}
		}
	}
}

// closesAll runs closings till they are at their end, the power going on its way.
func (r *rig) closesAll(most int) {
	r.t.Helper()
	for conn := r.connect(); ; {
		x, e := r.feed(conn, frames(r.t, closes(most)))
		if e == api.OK && x[0].Left == 1 {
			return
		}
		if e != api.OK {
			r.starts(r.p.now)
			conn = r.connect()
		}
	}
}

// TestT7Crashes: opened again and again at one tick, or from tick to tick, no more requests pass than the rate brings, all at once or one by one.
func TestT7Crashes(t *testing.T) {
	r := newRig(t, 300, 0)
	r.did(r.connect(), adds(rated("p", 1, 6, 3)), tenant("a", "p", 1))
	all := frames(t, shows("a"), shows("a"), shows("a"), shows("a"), shows("a"), shows("a"), shows("a"), shows("a"), shows("a"))
	for round := range 60 {
		for n := range 5 {
			conn := r.connect()
			for piece := range slices.Chunk(all, 1+n*17) {
				r.feed(conn, piece)
			}
			if round%2 == 0 {
				r.opens()
			} else {
				kill(r.d)
				r.starts(r.p.now)
			}
		}
		r.ticks(r.p.now + round%4)
	}
	isThrottled(t, r.passed["a"], 6, 3)
	if n := len(r.passed["a"]); n < 60 {
		t.Errorf("T7: %d passed", n)
	}
}

// TestT7Writes: a request makes no more writes, however much there is on the disk.
func TestT7Writes(t *testing.T) {
	r := newRig(t, 9000, 0)
	conn := r.connect()
	r.did(conn, adds(byDays("p", 1, 30, 900)))
	most := 0
	for n := range 60 {
		name := string(rune('a'+n%26)) + string(rune('a'+n/26))
		r.did(conn, tenant(name, "p", 1))
		r.ticks(r.p.now + 1)
		for id := 1; id <= 12; id++ {
			r.did(conn, hold(name, 2*id, id))
			wrote := r.d.Writes()
			r.did(conn, pack(name, 2*id+1, 5, 9))
			most = max(most, r.d.Writes()-wrote)
			if id == 11 {
				break
			}
		}
	}
	if most > bound+1 || most < 3 {
		t.Errorf("T7: %d writes of a request", most)
	}
	r.deep()
}
