package book_test

import (
	"fmt"
	"maps"
	"math/rand/v2"
	"regexp"
	"slices"
	"strings"
	"testing"

	"toll/account"
	"toll/api"
	"toll/book"
	"toll/disk"
	"toll/plan"
	"toll/rec"
)

const (
	most40 = 1 << 40
	most53 = 1 << 53
)

var aName = regexp.MustCompile(`\A[a-z0-9-]{1,24}\z`)

var (
	longName  = strings.Repeat("z", 24)
	goodNames = []string{"a", "-", "0", "a-", "a0", "aa", "ab", "b", "z", "--", "anna", "a-b-c", longName, longName[:23], longName[:23] + "-", "a" + longName[:23]}
	badNames  = []string{"", "A", "a b", "a ", " ", "a!", "a/", "a\x00", "é", "a~", longName + "z", strings.Repeat("a", 99), "\xff", "a_", "a\n", "a 0000000000000001"}
)

func newDisk(t testing.TB, blocks int) *disk.Disk {
	t.Helper()
	d, e := disk.New(blocks)
	if e != api.OK {
		t.Fatalf("P201: New(%d): %v", blocks, e)
	}
	return d
}

func opened(t testing.TB, d *disk.Disk) *book.Book {
	t.Helper()
	b, e := book.Open(d)
	if e != api.OK || b == nil {
		t.Fatalf("P1701: Open: %v", e)
	}
	return b
}

// copyOf is another disk with the same blocks.
func copyOf(t testing.TB, d *disk.Disk) *disk.Disk {
	t.Helper()
	other := newDisk(t, d.Blocks())
	for n := range d.Blocks() {
		b, e := d.Read(n)
		if e != api.OK || other.Write(n, b) != api.OK {
			t.Fatalf("P202: Read(%d): %v", n, e)
		}
	}
	return other
}

// kill lets the power go without a call of the book's: by a write that is not done.
func kill(d *disk.Disk) {
	d.Cut(0)
	d.Write(0, make([]byte, api.Block))
}

// small is an account that has just begun, with another Over for each seed.
func small(name string, seed int) api.Account {
	p := api.Plan{Name: "p", Version: 1, Allowance: 10, Kind: api.TDays, Days: 3, Burst: 1}
	a, _ := account.New(name, "key-"+fmt.Sprint(seed), p, seed*api.Day)
	a.Over = seed
	return a
}

// sized is an account that has so many lots, holds with so many parts, and entries; no two seeds have a number in common, but by chance.
func sized(name string, lots, holds, parts, entries, seed int) api.Account {
	r := rand.New(rand.NewPCG(uint64(seed), 17))
	upTo := func(n int) int { return 1 + r.IntN(n) }
	a := api.Account{
		Name: name, Key: longName,
		Plan: api.Plan{Name: longName, Version: upTo(1000000), Allowance: upTo(api.MaxUnits), Kind: api.TDays, Days: upTo(api.MaxDays), Cap: upTo(api.MaxUnits), Mode: api.MOver, Burst: upTo(api.MaxBurst), Rate: upTo(api.MaxRate)},
		Term: upTo(most40), From: upTo(3999999), To: 4000000, Next: most40, Over: upTo(most53),
	}
	for i := range lots {
		a.Lots = append(a.Lots, api.Lot{Id: most40 - 1000 + 50*i + r.IntN(50), Kind: r.IntN(3), From: upTo(most40 - 1), Until: most40, Granted: most40, Consumed: upTo(1 << 38), Expired: upTo(1 << 38), Rolled: upTo(1 << 38)})
	}
	for i := range holds {
		h := api.Hold{Id: most40 - 1000 + 50*i + r.IntN(50), Over: upTo(api.MaxUnits), Until: upTo(most40)}
		for k := range min(parts, lots) {
			n := upTo(1 << 34)
			a.Lots[k].Held += n
			h.Parts = append(h.Parts, api.Part{Lot: a.Lots[k].Id, N: n})
		}
		a.Holds = append(a.Holds, h)
	}
	for i := range entries {
		a.Window = append(a.Window, api.Entry{Id: most40 - 1000 + 50*i + r.IntN(50), Answer: api.Answer{Err: api.Errno(r.IntN(25)), Left: upTo(most53), Over: upTo(most53), N: upTo(most53)}})
	}
	return a
}

// great is an account with as much in it as may be.
func great(name string, seed int) api.Account {
	return sized(name, api.MaxLots+2, api.MaxHolds, api.MaxLots+2, api.IdemWindow, seed)
}

// mixed is an account of any size.
func mixed(name string, seed int) api.Account {
	r := rand.New(rand.NewPCG(uint64(seed), 18))
	switch r.IntN(4) {
	case 0:
		return small(name, seed&1023)
	case 1:
		return great(name, seed)
	}
	return sized(name, r.IntN(15), r.IntN(13), r.IntN(15), r.IntN(13), seed)
}

func version(name string, n int) api.Plan {
	return api.Plan{Name: name, Version: n, Allowance: 100 + n, Kind: api.TMonth, Anchor: 1 + n%31, Cap: n, Mode: n % 2, Burst: 1 + n, Rate: n % 1001}
}

func stated(name string, term int) api.Statement {
	return api.Statement{Name: name, Term: term, From: term, To: term + 1, Granted: 10 * term, Consumed: 3, Expired: 4 * term, Rolled: term * term, Over: 5}
}

// termOf is what a statement stands under.
type termOf struct {
	name string
	term int
}

// plainBook is what a book must be.
type plainBook struct {
	accounts   map[string]api.Account
	plans      map[string][]api.Plan
	statements map[termOf]api.Statement
	cursor     book.Cursor
	commits    int
}

func newPlain() *plainBook {
	return &plainBook{accounts: map[string]api.Account{}, plans: map[string][]api.Plan{}, statements: map[termOf]api.Statement{}}
}

func (p *plainBook) clone() *plainBook {
	q := *p
	q.accounts, q.plans, q.statements = maps.Clone(p.accounts), maps.Clone(p.plans), maps.Clone(p.statements)
	return &q
}

// pages is how many a book takes at most in all.
func (p *plainBook) pages() int {
	n := 32 + 64*len(p.accounts) + 3*len(p.statements)
	for _, l := range p.plans {
		n += 3 * len(l)
	}
	return n
}

func isCursor(c book.Cursor) bool {
	return (c.Name == "" || aName.MatchString(c.Name)) && 0 <= c.Time && c.Time <= 4000000000
}

func isStatement(s api.Statement) bool {
	for _, n := range []int{s.From, s.To, s.Granted, s.Consumed, s.Expired, s.Rolled, s.Over} {
		if n < 0 || n > most53 {
			return false
		}
	}
	return aName.MatchString(s.Name) && 1 <= s.Term && s.Term <= most40
}

func (p *plainBook) planError(x api.Plan) api.Errno {
	last := len(p.plans[x.Name])
	switch {
	case plan.Check(x) != api.OK:
		return plan.Check(x)
	case x.Version <= last:
		return api.ErrIs
	case x.Version > last+1:
		return api.ErrArg
	case last == 0 && len(p.plans) == 32:
		return api.ErrMany
	}
	return api.OK
}

func (p *plainBook) closeError(a api.Account, s api.Statement, c book.Cursor) api.Errno {
	_, is := p.statements[termOf{s.Name, s.Term}]
	switch {
	case !isStatement(s) || !isCursor(c):
		return api.ErrArg
	case account.Check(a) != api.OK:
		return account.Check(a)
	case is:
		return api.ErrIs
	}
	return api.OK
}

func moveError(c book.Cursor) api.Errno {
	if !isCursor(c) {
		return api.ErrArg
	}
	return api.OK
}

// differs tells where a book is not what it must be; nothing, if it is.
func (p *plainBook) differs(b *book.Book) string {
	names := slices.Sorted(maps.Keys(p.accounts))
	if got := b.Names(); !slices.Equal(got, names) {
		return fmt.Sprintf("Names: %q, not %q", got, names)
	}
	if b.Plans() != len(p.plans) || b.Cursor() != p.cursor || b.Commits() != p.commits {
		return fmt.Sprintf("Plans %d, Cursor %+v, Commits %d, not %d, %+v, %d", b.Plans(), b.Cursor(), b.Commits(), len(p.plans), p.cursor, p.commits)
	}
	for _, name := range slices.Concat(names, slices.Collect(maps.Keys(p.plans)), goodNames, badNames) {
		if d := p.differsAt(b, name); d != "" {
			return d
		}
	}
	for at, s := range p.statements {
		if got, is := b.Statement(at.name, at.term); !is || got != s {
			return fmt.Sprintf("Statement of %v: %+v, %t, not %+v", at, got, is, s)
		}
		if d := p.differsInTerm(b, at.name, at.term+1); d != "" {
			return d
		}
	}
	return ""
}

// differsAt looks at all that stands under a name, and at what must not.
func (p *plainBook) differsAt(b *book.Book, name string) string {
	want, is := p.accounts[name]
	if got, there := b.Account(name); there != is || !rec.SameAccount(got, want) {
		return fmt.Sprintf("Account(%q): %+v, %t, not %+v, %t", name, got, there, want, is)
	}
	l := p.plans[name]
	if n := b.Last(name); n != len(l) {
		return fmt.Sprintf("Last(%q): %d, not %d", name, n, len(l))
	}
	for _, n := range []int{-1 << 63, -1, 0, len(l) + 1, 1000000, 1000001, 1<<63 - 1} {
		if got, there := b.Plan(name, n); there || got != (api.Plan{}) {
			return fmt.Sprintf("Plan(%q, %d): %+v, %t", name, n, got, there)
		}
	}
	for i, x := range l {
		if got, there := b.Plan(name, i+1); !there || got != x {
			return fmt.Sprintf("Plan(%q, %d): %+v, %t, not %+v", name, i+1, got, there, x)
		}
	}
	for _, term := range []int{-1 << 63, -1, 0, 1, most40, most40 + 1, 1<<63 - 1} {
		if d := p.differsInTerm(b, name, term); d != "" {
			return d
		}
	}
	return ""
}

func (p *plainBook) differsInTerm(b *book.Book, name string, term int) string {
	want, is := p.statements[termOf{name, term}]
	if got, there := b.Statement(name, term); there != is || got != want {
		return fmt.Sprintf("Statement(%q, %d): %+v, %t, not %+v, %t", name, term, got, there, want, is)
	}
	return ""
}

// rig has a book, and beside it a plain one.
type rig struct {
	t    testing.TB
	d    *disk.Disk
	b    *book.Book
	p    *plainBook // as those transactions made it that were answered OK
	half *plainBook // as one that was cut off was to make it (nil: there was none)
	gone bool       // the power went
	most int        // writes of a transaction so far
}

func newRig(t testing.TB, blocks int) *rig {
	t.Helper()
	d := newDisk(t, blocks)
	r := &rig{t: t, d: d, b: opened(t, d), p: newPlain()}
	r.shows()
	return r
}

// copy is a rig with a disk of its own that has the same on it.
func (r *rig) copy() *rig {
	r.t.Helper()
	d := copyOf(r.t, r.d)
	return &rig{t: r.t, d: d, b: opened(r.t, d), p: r.p.clone()}
}

// does makes a call that has this error of its own, and does that to the book.
func (r *rig) does(what string, want api.Errno, call func() api.Errno, does func(p *plainBook)) api.Errno {
	r.t.Helper()
	left, wrote := r.b.Left(), r.d.Writes()
	switch {
	case r.gone || r.d.Dead():
		want, r.gone = api.ErrDead, true
	case want == api.OK && left < 64:
		want = api.ErrDiskFull
	}
	e := call()
	next := r.p.clone()
	does(next)
	next.commits++
	if !r.gone && r.d.Dead() {
		if want != api.OK {
			r.t.Fatalf("P1702: %s: it wrote, though it was to answer %v", what, want)
		}
		want, r.gone, r.half = api.ErrDead, true, next
		wrote = r.d.Writes()
	}
	if e != want {
		r.t.Fatalf("P1702: %s: %v, not %v", what, e, want)
	}
	wrote = r.d.Writes() - wrote
	if e == api.OK {
		r.p = next
		r.bounds(what, left, wrote)
	} else if wrote > 0 || !r.gone && (r.b.Left() != left || r.b.Commits() != r.p.commits) {
		r.t.Fatalf("P5: %s: %v, but %d writes, Left %d and then %d, Commits %d and then %d", what, e, wrote, left, r.b.Left(), r.p.commits, r.b.Commits())
	}
	return e
}

// bounds holds a transaction that was done to what it may write and take.
func (r *rig) bounds(what string, left, wrote int) {
	r.t.Helper()
	r.most = max(r.most, wrote)
	taken := left - r.b.Left()
	if wrote < 1 || wrote > 65 || taken > 64 {
		r.t.Fatalf("P1702: %s: %d writes, %d pages", what, wrote, taken)
	}
	if least := r.d.Blocks() - 32 - r.p.pages(); r.b.Left() < least {
		r.t.Fatalf("P1702: %s: Left %d, below %d", what, r.b.Left(), least)
	}
	if r.b.Commits() != r.p.commits {
		r.t.Fatalf("P1701: %s: Commits %d, not %d", what, r.b.Commits(), r.p.commits)
	}
}

func (r *rig) put(a api.Account) api.Errno {
	r.t.Helper()
	return r.does("Put of "+a.Name, account.Check(a), func() api.Errno { return r.b.Put(a) }, func(p *plainBook) { p.accounts[a.Name] = a })
}

func (r *rig) addPlan(x api.Plan) api.Errno {
	r.t.Helper()
	return r.does(fmt.Sprintf("AddPlan of %s, %d", x.Name, x.Version), r.p.planError(x), func() api.Errno { return r.b.AddPlan(x) }, func(p *plainBook) {
		p.plans[x.Name] = append(slices.Clip(p.plans[x.Name]), x)
	})
}

func (r *rig) close(a api.Account, s api.Statement, c book.Cursor) api.Errno {
	r.t.Helper()
	return r.does(fmt.Sprintf("Close of %s with %+v, %+v", a.Name, s, c), r.p.closeError(a, s, c), func() api.Errno { return r.b.Close(a, s, c) }, func(p *plainBook) {
		p.accounts[a.Name], p.statements[termOf{s.Name, s.Term}], p.cursor = a, s, c
	})
}

func (r *rig) move(c book.Cursor) api.Errno {
	r.t.Helper()
	return r.does(fmt.Sprintf("Move to %+v", c), moveError(c), func() api.Errno { return r.b.Move(c) }, func(p *plainBook) { p.cursor = c })
}

// shows holds all that the book shows against what it must be.
func (r *rig) shows() {
	r.t.Helper()
	wrote, left := r.d.Writes(), r.b.Left()
	if d := r.p.differs(r.b); d != "" {
		r.t.Fatalf("P1701: %s", d)
	}
	if r.d.Writes() != wrote || r.b.Left() != left {
		r.t.Fatalf("P1701: who looks changes something: %d writes, Left %d and then %d", r.d.Writes()-wrote, left, r.b.Left())
	}
	if least := r.d.Blocks() - 32 - r.p.pages(); left < least {
		r.t.Fatalf("P1702: Left %d, below %d", left, least)
	}
}

// open opens the book again, the power being there.
func (r *rig) open() {
	r.t.Helper()
	left := r.b.Left()
	r.b = opened(r.t, r.d)
	if r.b.Left() != left {
		r.t.Fatalf("P1701: Left %d, opened again %d", left, r.b.Left())
	}
	r.shows()
}

// start brings the power again, lets it go at each write of the opening, and looks at what is there then.
func (r *rig) start() {
	r.t.Helper()
	for cut := 0; ; cut++ {
		r.d.Start()
		r.d.Cut(cut)
		b, e := book.Open(r.d)
		if e == api.OK && !r.d.Dead() {
			r.b = b
			break
		}
		if e != api.ErrDead || b != nil {
			r.t.Fatalf("P1701: Open, the power going behind %d writes: %v", cut, e)
		}
	}
	r.d.Start()
	r.gone = false
	was := r.p.differs(r.b)
	if was != "" && r.half != nil {
		if half := r.half.differs(r.b); half != "" {
			r.t.Fatalf("P1703: it is neither what it was (%s), nor what was to be (%s)", was, half)
		}
		r.p = r.half
	} else if was != "" {
		r.t.Fatalf("P1703: %s", was)
	}
	r.half = nil
	r.shows()
}

// showsDead holds a book whose power went to its ErrDead, whatever it is handed.
func (r *rig) showsDead() {
	r.t.Helper()
	wrote := r.d.Writes()
	bad := small("x", 1)
	bad.Lots[0].Kind = 9
	for i, e := range []api.Errno{
		r.b.Put(small("x", 1)), r.b.Put(api.Account{}), r.b.Put(bad),
		r.b.AddPlan(version("x", 1)), r.b.AddPlan(api.Plan{}), r.b.AddPlan(version("p", 1)), r.b.AddPlan(version("x", 9)),
		r.b.Close(small("x", 1), stated("x", 1), book.Cursor{}), r.b.Close(bad, stated("x", 1), book.Cursor{}), r.b.Close(small("x", 1), api.Statement{}, book.Cursor{Time: -1}),
		r.b.Move(book.Cursor{}), r.b.Move(book.Cursor{Name: "A"}),
	} {
		if e != api.ErrDead {
			r.t.Fatalf("P1702: the power is gone: call %d answers %v", i, e)
		}
	}
	if r.d.Writes() != wrote {
		r.t.Fatal("P1702: the power is gone, and something was written")
	}
}
