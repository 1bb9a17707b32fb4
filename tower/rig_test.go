package tower_test

import (
	"bytes"
	"slices"
	"testing"

	"toll/api"
	"toll/book"
	"toll/disk"
	"toll/rec"
	"toll/tower"
)

func opened(t testing.TB, d *disk.Disk, admin string, now int) *tower.Tower {
	t.Helper()
	x, e := tower.New(d, admin, now)
	if e != api.OK || x == nil {
		t.Fatalf("P2101: New: %v", e)
	}
	return x
}

// rig has a tower, and beside it the plain service, and all that was told of connections.
type rig struct {
	t     testing.TB
	d     *disk.Disk
	x     *tower.Tower
	p     *plain
	waits map[int][]byte // the front of a frame that waits, of the connections that are there
	last  int            // the last connection's number

	lost   []api.Request // of the Feed that the power went in
	fronts []state       // what they were to make, transaction by transaction

	passed map[string][]int // ticks, by tenants: requests that passed the throttle
	given  []given
}

// given is bytes that were answered, and what they were then.
type given struct{ b, was []byte }

func newRig(t testing.TB, blocks, now int) *rig {
	t.Helper()
	return rigOf(t, newDisk(t, blocks), newPlain("root", now))
}

// rigOf opens a tower on a disk on which that lies.
func rigOf(t testing.TB, d *disk.Disk, p *plain) *rig {
	t.Helper()
	r := &rig{t: t, d: d, p: p, passed: map[string][]int{}}
	r.x = opened(t, d, p.admin, p.now)
	r.begins()
	return r
}

// copy is a rig with a disk of its own that has the same on it; its tower is opened anew.
func (r *rig) copy() *rig {
	r.t.Helper()
	return rigOf(r.t, copyOf(r.t, r.d), r.p)
}

// begins is what holds of each tower that New answers.
func (r *rig) begins() {
	r.t.Helper()
	r.waits, r.last = map[int][]byte{}, 0
	r.p = r.p.opened(r.p.admin, r.p.now)
	r.whole()
}

// counted holds Conns, and what is kept, against the connections that must be there.
func (r *rig) counted() {
	r.t.Helper()
	if r.x.Conns() != len(r.waits) || tower.Kept(r.x) != len(r.waits) {
		r.t.Fatalf("P2101: Conns() %d, %d are kept; there are %d", r.x.Conns(), tower.Kept(r.x), len(r.waits))
	}
}

// tries makes a connection, if it may be.
func (r *rig) tries() (int, api.Errno) {
	r.t.Helper()
	conn, want := r.last+1, api.OK
	switch {
	case r.d.Dead():
		conn, want = 0, api.ErrDead
	case len(r.waits) >= 16:
		conn, want = 0, api.ErrMany
	}
	n, e := r.x.Connect()
	if n != conn || e != want {
		r.t.Fatalf("P2101: Connect with %d there, the last one %d: %d, %v, not %d, %v", len(r.waits), r.last, n, e, conn, want)
	}
	if e == api.OK {
		r.last = n
		r.waits[n] = nil
	}
	r.counted()
	return n, e
}

// connect makes one that must be.
func (r *rig) connect() int {
	r.t.Helper()
	n, e := r.tries()
	if e != api.OK {
		r.t.Fatalf("P2101: Connect: %v", e)
	}
	return n
}

func (r *rig) breaks(conn int) api.Errno {
	r.t.Helper()
	want := api.ErrNone
	if _, is := r.waits[conn]; is {
		want = api.OK
	}
	e := r.x.Break(conn)
	if e != want {
		r.t.Fatalf("P2101: Break(%d): %v, not %v", conn, e, want)
	}
	delete(r.waits, conn)
	r.counted()
	return e
}

func (r *rig) ticks(now int) api.Errno {
	r.t.Helper()
	want := api.OK
	switch {
	case r.d.Dead():
		want = api.ErrDead
	case now < r.p.now || now > last:
		want = api.ErrArg
	}
	e := r.x.Tick(now)
	if e != want {
		r.t.Fatalf("P2101: Tick(%d) at %d: %v, not %v", now, r.p.now, e, want)
	}
	if e == api.OK {
		r.p.now = now
	}
	r.counted()
	return e
}

// hand feeds bytes in memory of its own that is turned behind the call, as is the spare room of what is answered.
func (r *rig) hand(conn int, b []byte) ([]byte, api.Errno) {
	r.t.Helper()
	lent := append(slices.Clone(b), "spare room"...)
	kept := slices.Clone(lent)
	out, e := r.x.Feed(conn, lent[:len(b)])
	if !bytes.Equal(lent, kept) {
		r.t.Fatalf("P2: Feed changed what it was handed: %x", b)
	}
	for i := range lent {
		lent[i] ^= 0xA5
	}
	r.given = append(r.given, given{out, slices.Clone(out)})
	spare := out[len(out):cap(out)]
	for i := range spare {
		spare[i] ^= 0xA5
	}
	return out, e
}

// feed feeds bytes, and holds all that comes of it against the plain service.
func (r *rig) feed(conn int, b []byte) ([]api.Answer, api.Errno) {
	r.t.Helper()
	front, is := r.waits[conn]
	switch {
	case !is:
		return nil, r.refused(conn, b, api.ErrNone)
	case r.d.Dead():
		return nil, r.refused(conn, b, api.ErrDead)
	}
	l, rest, broken := read(slices.Concat(front, b))
	left, wrote, commits := r.x.Left(), r.d.Writes(), r.x.Commits()
	out, e := r.hand(conn, b)
	r.waits[conn] = rest
	if broken {
		delete(r.waits, conn)
	}
	r.counted()
	was := *r.p
	want := r.does(l, left, parsed(r.t, out))
	if r.d.Dead() {
		r.isCut(&was, out, e)
		return nil, e
	}
	if e != api.OK || !bytes.Equal(out, written(want...)) {
		r.t.Fatalf("P2102: Feed(%d) of %+v at %d: %+v, %v, not %+v", conn, l, r.p.now, parsed(r.t, out), e, want)
	}
	r.bounds(l, r.d.Writes()-wrote, left-r.x.Left(), r.x.Commits()-commits)
	return want, e
}

// refused feeds a tower that must not take it.
func (r *rig) refused(conn int, b []byte, want api.Errno) api.Errno {
	r.t.Helper()
	wrote := r.d.Writes()
	out, e := r.hand(conn, b)
	if len(out) != 0 || e != want || r.d.Writes() != wrote {
		r.t.Fatalf("P2102: Feed(%d): %d bytes, %v, not %v; %d writes", conn, len(out), e, want, r.d.Writes()-wrote)
	}
	r.counted()
	return e
}

// does is what the plain service answers, one thing behind the other; got is what the tower has answered, which alone tells how far a run of closings came.
func (r *rig) does(l []said, left int, got []api.Answer) []api.Answer {
	r.t.Helper()
	r.lost, r.fronts = nil, nil
	one := requests(l) == 1
	var want []api.Answer
	for i, x := range l {
		a := no(x.e)
		if x.e == api.OK {
			r.p.room = func(done int) bool {
				if !one || done == 0 {
					return left >= bound
				}
				return i >= len(got) || done < got[i].N || r.x.Left() >= bound
			}
			a = r.p.do(x.q)
			r.lost = append(r.lost, x.q)
			r.fronts = append(r.fronts, r.p.fronts...)
			r.notePass(x.q, a)
		}
		want = append(want, a)
	}
	if !one && left >= bound && left < bound*(len(r.fronts)+1) {
		r.t.Fatalf("with %d pages left the rig can't tell of %d transactions at once which ones there is room for", left, len(r.fronts))
	}
	if r.p.fault != "" {
		r.t.Fatal(r.p.fault)
	}
	return want
}

// requests is how many of what was said are requests.
func requests(l []said) int {
	n := 0
	for _, x := range l {
		if x.e == api.OK {
			n++
		}
	}
	return n
}

// plenty tells whether there is room for all that bytes ask for, or for none of it: then the rig can tell what they come to.
func (r *rig) plenty(conn int, b []byte) bool {
	l, _, _ := read(slices.Concat(r.waits[conn], b))
	left, p, n := r.x.Left(), r.p.twin(), 0
	p.room = func(int) bool { return true }
	for _, x := range l {
		if x.e == api.OK {
			p.do(x.q)
			n += len(p.fronts)
		}
	}
	return requests(l) == 1 || left < bound || left >= bound*(n+1)
}

// notePass keeps when a tenant's request passed the throttle.
func (r *rig) notePass(q api.Request, x api.Answer) {
	name, is := r.p.whose(q.Key)
	if is && name != "" && x.Err != api.ErrThrottle && x.Err != api.ErrKind {
		r.passed[name] = append(r.passed[name], r.p.now)
	}
}

// bounds holds what was fed to what it may write and take: of so many transactions.
func (r *rig) bounds(l []said, wrote, taken, commits int) {
	r.t.Helper()
	n := len(r.fronts)
	if commits != n || r.x.Commits() != r.p.commits {
		r.t.Fatalf("P2103: %+v: %d transactions, not %d; Commits() %d, not %d", l, commits, n, r.x.Commits(), r.p.commits)
	}
	if wrote < n || wrote > (bound+1)*n || taken > bound*n || n == 0 && taken != 0 {
		r.t.Fatalf("T7: %+v: %d writes and %d pages of %d transactions", l, wrote, taken, n)
	}
}

// isCut holds a Feed that the power went in. The service is as it was then, till what was done is known.
func (r *rig) isCut(was *plain, out []byte, e api.Errno) {
	r.t.Helper()
	if len(out) != 0 || e != api.ErrDead {
		r.t.Fatalf("P2102: %+v, the power going: %d bytes, %v", r.lost, len(out), e)
	}
	if len(r.fronts) == 0 {
		r.t.Fatalf("P2102: %+v: it wrote, though nothing was to be done", r.lost)
	}
	r.p = was
}

// asks sends requests on a connection, all at once.
func (r *rig) asks(conn int, l ...api.Request) []api.Answer {
	r.t.Helper()
	x, e := r.feed(conn, frames(r.t, l...))
	if e != api.OK {
		r.t.Fatalf("P2102: %+v: %v", l, e)
	}
	return x
}

// is holds the answer to a request against what was worked out by hand.
func (r *rig) is(conn int, q api.Request, want api.Answer) {
	r.t.Helper()
	if x := r.asks(conn, q); len(x) != 1 || x[0] != want {
		r.t.Errorf("P2102: %+v at %d: %+v, not %+v", q, r.p.now, x, want)
	}
}

// did are requests that must be answered without an error.
func (r *rig) did(conn int, l ...api.Request) {
	r.t.Helper()
	for i, x := range r.asks(conn, l...) {
		if x.Err != api.OK {
			r.t.Fatalf("P2102: %+v at %d: %+v", l[i], r.p.now, x)
		}
	}
}

// opens opens the tower again, the power being there.
func (r *rig) opens() {
	r.t.Helper()
	left := r.x.Left()
	r.x = opened(r.t, r.d, r.p.admin, r.p.now)
	if r.x.Left() != left {
		r.t.Fatalf("P2101: Left() was %d, and is %d", left, r.x.Left())
	}
	r.begins()
}

// starts brings the power again, lets it go at each write of the opening, and looks at what is there then; it tells how many transactions are done of those that were cut off.
func (r *rig) starts(now int) int {
	r.t.Helper()
	for cut := 0; ; cut++ {
		r.d.Start()
		r.d.Cut(cut)
		x, e := tower.New(r.d, r.p.admin, now)
		if e == api.OK && !r.d.Dead() {
			r.x = x
			break
		}
		if e != api.ErrDead || x != nil {
			r.t.Fatalf("P2101: New, the power going behind %d writes: %v", cut, e)
		}
	}
	r.d.Start()
	done := r.x.Commits() - r.p.commits
	if done < 0 || done > len(r.fronts) {
		r.t.Fatalf("T2: %d transactions more than were answered, of %d that were cut off", done, len(r.fronts))
	}
	if done > 0 {
		r.p.state = r.fronts[done-1]
	}
	r.p.now, r.fronts = now, nil
	r.begins()
	return done
}

// whole holds all that the tower shows against the plain service.
func (r *rig) whole() {
	r.t.Helper()
	wrote, left := r.d.Writes(), r.x.Left()
	names := r.p.names()
	if got := r.x.Names(); !slices.Equal(got, names) || r.x.Commits() != r.p.commits {
		r.t.Fatalf("P2103: Names() %q, Commits() %d, not %q, %d", got, r.x.Commits(), names, r.p.commits)
	}
	for _, name := range names {
		a, is := r.x.Account(name)
		if !is || !rec.SameAccount(a, r.p.accounts[name]) {
			r.t.Fatalf("P2103: Account(%q): %+v, %t, not %+v", name, a, is, r.p.accounts[name])
		}
		addsUp(r.t, a)
		closedOnce(r.t, a, r.p.state)
	}
	for _, name := range []string{"", "nobody", "A", longName} {
		if a, is := r.x.Account(name); is != slices.Contains(names, name) || !is && !rec.SameAccount(a, api.Account{}) {
			r.t.Fatalf("P2103: Account(%q): %+v, %t", name, a, is)
		}
	}
	r.counted()
	if r.d.Writes() != wrote || r.x.Left() != left {
		r.t.Fatalf("P2103: who looks changes something: %d writes, Left() %d and then %d", r.d.Writes()-wrote, left, r.x.Left())
	}
}

// deep holds what stands on the disk, as a book shows it, against the plain service, and what was answered against what it was then.
func (r *rig) deep() {
	r.t.Helper()
	r.whole()
	b, e := book.Open(copyOf(r.t, r.d))
	if e != api.OK {
		r.t.Fatalf("P1701: Open: %v", e)
	}
	if b.Left() != r.x.Left() || b.Commits() != r.x.Commits() || !slices.Equal(b.Names(), r.x.Names()) {
		r.t.Fatalf("P2103: the book has Left %d, Commits %d, Names %q", b.Left(), b.Commits(), b.Names())
	}
	if b.Cursor() != r.p.run || b.Plans() != r.p.plansNamed() {
		r.t.Fatalf("T6: the cursor is %+v, not %+v; %d plans, not %d", b.Cursor(), r.p.run, b.Plans(), r.p.plansNamed())
	}
	for at, want := range r.p.plans {
		if got, is := b.Plan(at.name, at.version); !is || got != want {
			r.t.Fatalf("T1: the plan %v: %+v, not %+v", at, got, want)
		}
	}
	for at, want := range r.p.told {
		if got, is := b.Statement(at.name, at.term); !is || got != want {
			r.t.Fatalf("T1: the statement %v: %+v, not %+v", at, got, want)
		}
	}
	for _, x := range r.given {
		if !bytes.Equal(x.b, x.was) {
			r.t.Fatalf("P2: what was answered as %x is %x now", x.was, x.b)
		}
	}
}

// sameAs holds what lasts of two rigs against each other.
func (r *rig) sameAs(other *rig, what string) {
	r.t.Helper()
	if !slices.Equal(r.x.Names(), other.x.Names()) || r.x.Commits() != other.x.Commits() || r.x.Left() != other.x.Left() {
		r.t.Fatalf("%s: %q, %d, %d, and the other one %q, %d, %d", what, r.x.Names(), r.x.Commits(), r.x.Left(), other.x.Names(), other.x.Commits(), other.x.Left())
	}
	for _, name := range r.x.Names() {
		a, _ := r.x.Account(name)
		b, _ := other.x.Account(name)
		if !rec.SameAccount(a, b) {
			r.t.Fatalf("%s: %+v, and the other one %+v", what, a, b)
		}
	}
}

// cast is a rig with plans p (10 days, 100 units), q (3 days, 50 units, by its second version 60 and over) and tenants a, b, c, d, of p but for d, that may ask, at tick 10; its first connection is there.
func cast(t testing.TB, blocks int) *rig {
	t.Helper()
	r := newRig(t, blocks, 0)
	over := byDays("q", 2, 3, 60)
	over.Mode = api.MOver
	conn := r.connect()
	for _, q := range []api.Request{adds(byDays("p", 1, 10, 100)), adds(byDays("q", 1, 3, 50)), adds(over), tenant("c", "p", 1), tenant("a", "p", 1), tenant("d", "q", 1), tenant("b", "p", 1)} {
		r.did(conn, q)
	}
	r.ticks(10)
	return r
}
