package server_test

import (
	"fmt"
	"regexp"
	"slices"
	"strings"
	"testing"

	"toll/api"
	"toll/book"
	"toll/disk"
	"toll/rec"
	"toll/server"
)

const (
	day   = 1440
	last  = 4000000000 // tick
	bound = 64         // pages, for which there must be room
)

var aName = regexp.MustCompile(`\A[a-z0-9-]{1,24}\z`)

var (
	longName = strings.Repeat("z", 24)
	badNames = []string{"", "A", "a b", "a ", " ", "a!", "a\x00", "é", "a~", longName + "z", strings.Repeat("a", 99), "\xff", "a_", "a\n", "Root"}
)

func newDisk(t testing.TB, blocks int) *disk.Disk {
	t.Helper()
	d, e := disk.New(blocks)
	if e != api.OK {
		t.Fatalf("P201: New(%d): %v", blocks, e)
	}
	return d
}

// copyOf is another disk with the same blocks.
func copyOf(t testing.TB, d *disk.Disk) *disk.Disk {
	t.Helper()
	other := newDisk(t, d.Blocks())
	for n := range d.Blocks() {
		b, e := d.Read(n)
		if e != api.OK || other.Write(n, b) != api.OK {
			t.Fatalf("P202: Read(%d): %v", n, e)
		}
	}
	return other
}

// kill lets the power go without a call of the server's: by a write that is not done.
func kill(d *disk.Disk) {
	d.Cut(0)
	d.Write(0, make([]byte, api.Block))
}

func opened(t testing.TB, d *disk.Disk, admin string, now int) *server.Server {
	t.Helper()
	s, e := server.Open(d, admin, now)
	if e != api.OK || s == nil {
		t.Fatalf("P2001: Open: %v", e)
	}
	return s
}

// byDays is a plan that a tenant is not throttled by soon.
func byDays(name string, version, days, allowance int) api.Plan {
	return api.Plan{Name: name, Version: version, Allowance: allowance, Kind: api.TDays, Days: days, Cap: allowance / 3, Burst: 1000, Rate: 100}
}

// Requests of the admin, whose key is root.
func adds(p api.Plan) api.Request { return api.Request{Kind: api.KPlan, Key: "root", Plan: p} }

func tenant(name, key, plan string, version int) api.Request {
	return api.Request{Kind: api.KTenant, Key: "root", Name: name, Secret: key, Plan: api.Plan{Name: plan, Version: version}}
}

func change(name, plan string, version int) api.Request {
	return api.Request{Kind: api.KChange, Key: "root", Name: name, Plan: api.Plan{Name: plan, Version: version}}
}

func closes(n int) api.Request { return api.Request{Kind: api.KClose, Key: "root", N: n} }

func terms(name string, n int) api.Request {
	return api.Request{Kind: api.KTerms, Key: "root", Name: name, N: n}
}

// Requests of a tenant.
func hold(key string, id, n int) api.Request {
	return api.Request{Kind: api.KHold, Key: key, Id: id, N: n, TTL: 500}
}

func commit(key string, id, of, n int) api.Request {
	return api.Request{Kind: api.KCommit, Key: key, Id: id, Of: of, N: n}
}

func release(key string, id, of int) api.Request {
	return api.Request{Kind: api.KRelease, Key: key, Id: id, Of: of}
}

func pack(key string, id, n, ttl int) api.Request {
	return api.Request{Kind: api.KPack, Key: key, Id: id, N: n, TTL: ttl}
}

func shows(key string) api.Request { return api.Request{Kind: api.KShow, Key: key} }

// told is an answer that has nothing but N.
func told(n int) api.Answer { return api.Answer{N: n} }

// atEnd is the answer of a run that is at its end.
func atEnd(n int) api.Answer { return api.Answer{N: n, Left: 1} }

// rig has a server, and beside it the mirror of what it must be.
type rig struct {
	t      testing.TB
	d      *disk.Disk
	s      *server.Server
	m      *mirror   // as those requests made it that were answered
	fronts []*mirror // as one that was cut off was to make it, transaction by transaction
	gone   bool      // the power went

	passed  map[string][]int // ticks, by tenants: requests that passed the throttle
	answers []api.Answer     // all of them, in order; zero where the power went
}

func newRig(t testing.TB, blocks, now int) *rig {
	t.Helper()
	d := newDisk(t, blocks)
	r := &rig{t: t, d: d, s: opened(t, d, "root", now), m: newMirror("root", now), passed: map[string][]int{}}
	r.whole()
	return r
}

// copy is a rig with a disk of its own that has the same on it; its server is opened anew.
func (r *rig) copy() *rig {
	r.t.Helper()
	d := copyOf(r.t, r.d)
	return &rig{t: r.t, d: d, s: opened(r.t, d, r.m.admin, r.m.now), m: r.m.opened(r.m.admin, r.m.now), passed: map[string][]int{}}
}

// do makes a request, and holds all that comes of it against the mirror.
func (r *rig) do(q api.Request) (api.Answer, api.Errno) {
	r.t.Helper()
	if r.gone || r.d.Dead() {
		return r.doDead(q)
	}
	left, wrote, commits := r.s.Left(), r.d.Writes(), r.s.Commits()
	x, e := r.s.Do(q)
	r.answers = append(r.answers, x)
	is := func(done int) bool {
		if done == 0 {
			return left >= bound
		}
		// Of a run's later terms the server alone tells: till it ends early, and has no room then.
		return e != api.OK || done < x.N || r.s.Left() >= bound
	}
	want := r.m.does(q, is)
	r.notePass(q, want)
	if r.d.Dead() {
		if len(want.fronts) == 0 {
			r.t.Fatalf("P2002: %+v: it wrote, though it was to answer %+v", q, want.answer)
		}
		if x != (api.Answer{}) || e != api.ErrDead {
			r.t.Fatalf("P2002: %+v, the power going: %+v, %v", q, x, e)
		}
		r.gone, r.fronts = true, want.fronts
		return x, e
	}
	if x != want.answer || e != api.OK {
		r.t.Fatalf("P2002: %+v at %d: %+v, %v, not %+v", q, r.m.now, x, e, want.answer)
	}
	r.m = want.behind
	r.bounds(q, len(want.fronts), r.d.Writes()-wrote, left-r.s.Left(), r.s.Commits()-commits)
	return x, e
}

// doDead makes a request when the power is gone.
func (r *rig) doDead(q api.Request) (api.Answer, api.Errno) {
	r.t.Helper()
	wrote := r.d.Writes()
	x, e := r.s.Do(q)
	if x != (api.Answer{}) || e != api.ErrDead || r.d.Writes() != wrote {
		r.t.Fatalf("P2002: %+v, the power being gone: %+v, %v, %d writes", q, x, e, r.d.Writes()-wrote)
	}
	r.gone = true
	return x, e
}

// bounds holds a request to what it may write and take: of so many transactions.
func (r *rig) bounds(q api.Request, many, wrote, taken, commits int) {
	r.t.Helper()
	if commits != many || r.s.Commits() != r.m.commits {
		r.t.Fatalf("P2002: %+v: %d transactions, not %d; Commits %d, not %d", q, commits, many, r.s.Commits(), r.m.commits)
	}
	if wrote < many || wrote > (bound+1)*many || taken > bound*many || many == 0 && taken != 0 {
		r.t.Fatalf("T7: %+v: %d writes and %d pages of %d transactions", q, wrote, taken, many)
	}
}

// notePass keeps when a tenant's request passed the throttle.
func (r *rig) notePass(q api.Request, want deed) {
	name, is := r.m.who(q.Key)
	if is && name != "" && want.answer.Err != api.ErrThrottle && want.answer.Err != api.ErrKind {
		r.passed[name] = append(r.passed[name], r.m.now)
	}
}

// is holds a request's answer against what was worked out by hand.
func (r *rig) is(q api.Request, want api.Answer) {
	r.t.Helper()
	if x, e := r.do(q); x != want || e != api.OK {
		r.t.Errorf("P2002: %+v at %d: %+v, %v, not %+v", q, r.m.now, x, e, want)
	}
}

// did is a request that must be answered without an error.
func (r *rig) did(q api.Request) api.Answer {
	r.t.Helper()
	x, e := r.do(q)
	if x.Err != api.OK || e != api.OK {
		r.t.Fatalf("P2002: %+v at %d: %+v, %v", q, r.m.now, x, e)
	}
	return x
}

// ticks tells the server the time.
func (r *rig) ticks(now int) api.Errno {
	r.t.Helper()
	want := api.OK
	if now < r.m.now || now > last {
		want = api.ErrArg
	}
	e := r.s.Tick(now)
	if e == api.OK {
		c := r.m.clone()
		c.now = now
		r.m = c
	}
	if e != want || r.s.Now() != r.m.now {
		r.t.Fatalf("P2001: Tick(%d): %v, not %v; Now() %d, not %d", now, e, want, r.s.Now(), r.m.now)
	}
	return e
}

// opens opens the server again, the power being there.
func (r *rig) opens(admin string, now int) {
	r.t.Helper()
	left := r.s.Left()
	r.s = opened(r.t, r.d, admin, now)
	r.m = r.m.opened(admin, now)
	if r.s.Left() != left {
		r.t.Fatalf("P2001: Left() was %d, and is %d", left, r.s.Left())
	}
	r.whole()
}

// starts brings the power again, lets it go at each write of the opening, and looks at what is there then.
func (r *rig) starts(now int) {
	r.t.Helper()
	for cut := 0; ; cut++ {
		r.d.Start()
		r.d.Cut(cut)
		s, e := server.Open(r.d, r.m.admin, now)
		if e == api.OK && !r.d.Dead() {
			r.s = s
			break
		}
		if e != api.ErrDead || s != nil {
			r.t.Fatalf("P2001: Open, the power going behind %d writes: %v", cut, e)
		}
	}
	r.d.Start()
	done := r.s.Commits() - r.m.commits
	if done < 0 || done > len(r.fronts) {
		r.t.Fatalf("T2: %d transactions more than were answered, of %d that were cut off", done, len(r.fronts))
	}
	if done > 0 {
		r.m = r.fronts[done-1]
	}
	r.m = r.m.opened(r.m.admin, now)
	r.gone, r.fronts = false, nil
	r.whole()
}

// whole holds all that the server shows against the mirror. It makes requests, of the admin's, that change nothing.
func (r *rig) whole() {
	r.t.Helper()
	wrote, left := r.d.Writes(), r.s.Left()
	names := r.m.names()
	if got := r.s.Names(); !slices.Equal(got, names) {
		r.t.Fatalf("P2001: Names(): %q, not %q", got, names)
	}
	if r.s.Now() != r.m.now || r.s.Commits() != r.m.commits {
		r.t.Fatalf("P2001: Now() %d, Commits() %d, not %d, %d", r.s.Now(), r.s.Commits(), r.m.now, r.m.commits)
	}
	for _, name := range names {
		a, is := r.s.Account(name)
		if !is || !rec.SameAccount(a, r.m.accounts[name]) {
			r.t.Fatalf("P2001: Account(%q): %+v, %t, not %+v", name, a, is, r.m.accounts[name])
		}
		addsUp(r.t, a)
		r.toldTerms(name, a.Term)
	}
	for _, name := range []string{"", "nobody", "A", longName} {
		if a, is := r.s.Account(name); is != slices.Contains(names, name) || !is && !rec.SameAccount(a, api.Account{}) {
			r.t.Fatalf("P2001: Account(%q): %+v, %t", name, a, is)
		}
	}
	if r.d.Writes() != wrote || r.s.Left() != left {
		r.t.Fatalf("P2001: who looks changes something: %d writes, Left() %d and then %d", r.d.Writes()-wrote, left, r.s.Left())
	}
}

// toldTerms holds the statements of a tenant that is in a term against the mirror: of each term ahead there is one, and no other.
func (r *rig) toldTerms(name string, term int) {
	r.t.Helper()
	for n := 0; n <= term+1; n++ {
		q := terms(name, n)
		q.Key = r.m.admin
		s, is := r.m.statements[termOf{name, n}]
		want := api.Answer{Statement: s}
		if !is {
			want = no(api.ErrNone)
		}
		if x, e := r.s.Do(q); x != want || e != api.OK {
			r.t.Fatalf("P2002: the statement of %s, %d: %+v, %v, not %+v", name, n, x, e, want)
		}
		if is != (1 <= n && n < term) {
			r.t.Fatalf("T6: %s is in term %d; a statement of %d: %t", name, term, n, is)
		}
		if s.Granted != s.Consumed+s.Expired+s.Rolled || min(s.Consumed, s.Expired, s.Rolled, s.Over) < 0 {
			r.t.Fatalf("T3: the statement %+v", s)
		}
	}
}

// deep holds what stands on the disk, as a book shows it, against the mirror.
func (r *rig) deep() {
	r.t.Helper()
	r.whole()
	b, e := book.Open(copyOf(r.t, r.d))
	if e != api.OK {
		r.t.Fatalf("P1701: Open: %v", e)
	}
	if b.Left() != r.s.Left() || b.Commits() != r.s.Commits() || !slices.Equal(b.Names(), r.s.Names()) {
		r.t.Fatalf("P2001: the book has Left %d, Commits %d, Names %q", b.Left(), b.Commits(), b.Names())
	}
	if b.Cursor() != r.m.cursor || b.Plans() != len(r.m.plans) {
		r.t.Fatalf("P2002: the cursor is %+v, not %+v; %d plans, not %d", b.Cursor(), r.m.cursor, b.Plans(), len(r.m.plans))
	}
	for name, l := range r.m.plans {
		for i, p := range l {
			if got, _ := b.Plan(name, i+1); got != p {
				r.t.Fatalf("P2002: the plan %s, %d: %+v, not %+v", name, i+1, got, p)
			}
		}
		if b.Last(name) != len(l) {
			r.t.Fatalf("P2002: the last version of %s: %d, not %d", name, b.Last(name), len(l))
		}
	}
}

// addsUp holds an account's lots to T3.
func addsUp(t testing.TB, a api.Account) {
	t.Helper()
	held := map[int]int{}
	for _, h := range a.Holds {
		for _, p := range h.Parts {
			held[p.Lot] += p.N
		}
	}
	for _, l := range a.Lots {
		rest := l.Granted - (l.Consumed + l.Held + l.Expired + l.Rolled)
		if min(l.Granted, l.Consumed, l.Held, l.Expired, l.Rolled, rest) < 0 || held[l.Id] != l.Held {
			t.Fatalf("T3: %s: a lot %+v, of which holds have %d", a.Name, l, held[l.Id])
		}
	}
}

// leftOf is how many units an account's valid lots have left at a tick, its holds that are due being released.
func leftOf(a api.Account, now int) int {
	n := 0
	back := map[int]int{}
	for _, h := range a.Holds {
		for _, p := range h.Parts {
			if h.Until <= now {
				back[p.Lot] += p.N
			}
		}
	}
	for _, l := range a.Lots {
		if l.From <= now && now < l.Until {
			n += l.Granted - l.Consumed - l.Held - l.Expired - l.Rolled + back[l.Id]
		}
	}
	return n
}

// cast is a rig with plans p (10 days, 100 units), q (3 days, 50 units, by its second version 60 and over) and tenants a, b, c, d, of p but for d, that may ask, at tick 10. The key of each is k and its name.
func cast(t testing.TB, blocks int) *rig {
	t.Helper()
	r := newRig(t, blocks, 0)
	r.did(adds(byDays("p", 1, 10, 100)))
	r.did(adds(byDays("q", 1, 3, 50)))
	over := byDays("q", 2, 3, 60)
	over.Mode = api.MOver
	r.did(adds(over))
	for _, name := range []string{"c", "a", "d", "b"} {
		of := "p"
		if name == "d" {
			of = "q"
		}
		r.did(tenant(name, "k"+name, of, 1))
	}
	r.ticks(10)
	return r
}

func some(what string, n int) string { return fmt.Sprint(what, n) }
