package book_test

import (
	"fmt"
	"slices"
	"testing"

	"toll/account"
	"toll/api"
	"toll/book"
	"toll/rec"
)

// TestExample1: Put, opened again: the same account.
func TestExample1(t *testing.T) {
	d := newDisk(t, 256)
	b := opened(t, d)
	a := small("anna", 3)
	if e := b.Put(a); e != api.OK {
		t.Fatalf("P1702: Put: %v", e)
	}
	if got, is := opened(t, d).Account("anna"); !is || !rec.SameAccount(got, a) {
		t.Errorf("P1701: opened again: %+v, %t, not %+v", got, is, a)
	}
}

// TestP1701New: a new book has nothing, and opened again neither.
func TestP1701New(t *testing.T) {
	for _, blocks := range []int{64, 65, 100, 4096, 4097, 16384} {
		r := newRig(t, blocks)
		for range 2 {
			if len(r.b.Names()) != 0 || r.b.Plans() != 0 || r.b.Cursor() != (book.Cursor{}) || r.b.Commits() != 0 {
				t.Errorf("P1701: a new book: %q, %d, %+v, %d", r.b.Names(), r.b.Plans(), r.b.Cursor(), r.b.Commits())
			}
			if r.b.Left() < blocks-32 || r.b.Left() > blocks {
				t.Errorf("P1702: of %d blocks Left is %d", blocks, r.b.Left())
			}
			r.open()
		}
	}
}

// TestP1701OpenErrors: txn.Open's errors, and no book beside them.
func TestP1701OpenErrors(t *testing.T) {
	for _, blocks := range []int{1, 2, 32, 63} {
		if b, e := book.Open(newDisk(t, blocks)); e != api.ErrArg || b != nil {
			t.Errorf("P1701: of %d blocks: %v, %v", blocks, b, e)
		}
	}
	d := newDisk(t, 64)
	kill(d)
	if b, e := book.Open(d); e != api.ErrDead || b != nil {
		t.Errorf("P1701: of a disk without power: %v, %v", b, e)
	}
	d.Start()
	if b, e := book.Open(d); e != api.OK || b == nil {
		t.Errorf("P1701: of a disk that has power again: %v, %v", b, e)
	}
	few := newDisk(t, 63)
	kill(few)
	if b, e := book.Open(few); e != api.ErrArg || b != nil {
		t.Errorf("P1701: of few blocks without power: %v, %v", b, e)
	}
}

// TestP1702Put: accounts of each size, new ones and in the place of others, among other tenants'.
func TestP1702Put(t *testing.T) {
	r := newRig(t, 2048)
	for i, name := range goodNames {
		if e := r.put(mixed(name, i)); e != api.OK {
			t.Fatalf("P1702: Put of %q: %v", name, e)
		}
		r.shows()
	}
	r.open()
	kinds := []func(string, int) api.Account{small, great, small, mixed, great, great, mixed}
	for i := range 60 {
		name := goodNames[i*5%len(goodNames)]
		r.put(kinds[i%len(kinds)](name, i))
		if i%6 == 0 {
			r.shows()
		}
	}
	r.shows()
	r.open()
}

// TestP1702PutSizes: an account goes from each size to each other, piece by piece.
func TestP1702PutSizes(t *testing.T) {
	r := newRig(t, 512)
	r.put(great("a", 1))
	r.put(great("c", 2))
	for holds := range 13 {
		for entries := range 13 {
			r.put(sized("b", 14-entries, holds, 14, 12-entries, holds*13+entries))
			if got, is := r.b.Account("b"); !is || !rec.SameAccount(got, r.p.accounts["b"]) {
				t.Fatalf("P1702: %d holds, %d entries: %+v", holds, entries, got)
			}
		}
	}
	r.shows()
	r.open()
}

// TestP1702PutMost: great is as much as an account may have, and stands whole.
func TestP1702PutMost(t *testing.T) {
	a := great(longName, 7)
	if e := account.Check(a); e != api.OK {
		t.Fatalf("P1302: %v", e)
	}
	more := []func(a *api.Account){
		func(a *api.Account) { a.Lots = append(a.Lots, api.Lot{Id: most40 - 1, Until: 1}) },
		func(a *api.Account) { a.Holds = append(a.Holds, api.Hold{Id: most40}) },
		func(a *api.Account) { a.Window = append(a.Window, api.Entry{Id: most40}) },
	}
	for i, add := range more {
		b := a
		add(&b)
		if account.Check(b) == api.OK {
			t.Fatalf("P1302: an account may have still more: %d", i)
		}
	}
	if n := len(rec.EncodeAccount(a)); n != 4594 {
		t.Fatalf("P602: %d bytes", n)
	}
	r := newRig(t, 256)
	if e := r.put(a); e != api.OK {
		t.Fatalf("P1702: %v", e)
	}
	r.shows()
	r.open()
}

// TestP1702PutSame: an account that is there already is put all the same: it is a transaction.
func TestP1702PutSame(t *testing.T) {
	r := newRig(t, 512)
	for range 3 {
		for _, a := range []api.Account{small("a", 1), great("b", 2)} {
			if e := r.put(a); e != api.OK {
				t.Errorf("P1702: %v", e)
			}
		}
	}
	if r.b.Commits() != 6 {
		t.Errorf("P1701: Commits %d, not 6", r.b.Commits())
	}
	r.open()
}

// badAccounts are such that account.Check refuses, each for another reason, with its error.
func badAccounts() map[string]api.Account {
	l := map[string]api.Account{"zero": {}}
	for why, spoil := range map[string]func(a *api.Account){
		"name":    func(a *api.Account) { a.Name = "A" },
		"no name": func(a *api.Account) { a.Name = "" },
		"key":     func(a *api.Account) { a.Key = "" },
		"term":    func(a *api.Account) { a.Term = 0 },
		"plan":    func(a *api.Account) { a.Plan.Burst = 0 },
		"next":    func(a *api.Account) { a.Next = a.Lots[0].Id },
		"kind":    func(a *api.Account) { a.Lots[0].Kind = 9 },
		"lots":    func(a *api.Account) { a.Lots = make([]api.Lot, 15) },
		"held":    func(a *api.Account) { a.Lots[0].Held = 1 },
		"holds":   func(a *api.Account) { a.Holds = make([]api.Hold, 300) },
		"window":  func(a *api.Account) { a.Window = make([]api.Entry, 300) },
		"answer":  func(a *api.Account) { a.Window = []api.Entry{{Id: 1, Answer: api.Answer{Err: 25}}} },
		"stated":  func(a *api.Account) { a.Window = []api.Entry{{Id: 1, Answer: api.Answer{Statement: stated("a", 1)}}} },
	} {
		a := small("bad", 1)
		spoil(&a)
		l[why] = a
	}
	return l
}

// TestP1702PutBad: account.Check's error, whichever it is, and nothing is done.
func TestP1702PutBad(t *testing.T) {
	r := newRig(t, 256)
	r.put(small("bad", 1))
	seen := map[api.Errno]bool{}
	for why, a := range badAccounts() {
		e := r.put(a)
		if e == api.OK {
			t.Errorf("P1702: %s: OK", why)
		}
		seen[e] = true
	}
	for _, e := range []api.Errno{api.ErrArg, api.ErrKind, api.ErrMany, api.ErrBad} {
		if !seen[e] {
			t.Errorf("P1702: no account was refused by %v", e)
		}
	}
	r.shows()
	r.open()
}

// TestP1701Names: rising, byte by byte, in whatever order they came.
func TestP1701Names(t *testing.T) {
	want := []string{"-", "--", "-a", "0", "00", "9-9", "a", "a-", "a--", "a-a", "a0", "aa", "ab", "b", "z", "z-", "zz"}
	for step := range 5 {
		r := newRig(t, 1024)
		for i := range want {
			name := want[(i*(2*step+3)+step)%len(want)]
			r.put(mixed(name, i+step))
		}
		for range 2 {
			if got := r.b.Names(); !slices.Equal(got, want) {
				t.Errorf("P1701: Names: %q", got)
			}
			r.open()
		}
	}
}

// TestP1701Apart: accounts, plans and statements of one name are not one another's.
func TestP1701Apart(t *testing.T) {
	r := newRig(t, 1024)
	r.put(small("a", 1))
	r.shows()
	r.addPlan(version("b", 1))
	r.shows()
	r.close(small("c", 2), stated("d", 4), book.Cursor{On: true, Name: "e"})
	r.shows()
	for _, name := range []string{"a", "c", "p", "s"} {
		r.put(small(name, 2))
		r.addPlan(version(name, 1))
		r.close(small(name, 5), stated(name, 1), book.Cursor{Name: name})
		r.shows()
	}
	r.open()
}

// TestP1702Plans: versions come one behind the other, and each stays what it was.
func TestP1702Plans(t *testing.T) {
	r := newRig(t, 1024)
	for _, x := range []struct {
		p    api.Plan
		want api.Errno
	}{
		{version("p", 2), api.ErrArg},
		{version("p", 1000000), api.ErrArg},
		{version("p", 0), api.ErrArg},
		{version("p", 1), api.OK},
		{version("p", 1), api.ErrIs},
		{version("p", 0), api.ErrArg},
		{version("p", -1), api.ErrArg},
		{version("p", 3), api.ErrArg},
		{version("p", 2), api.OK},
		{version("p", 2), api.ErrIs},
		{version("p", 1), api.ErrIs},
		{version("p", 4), api.ErrArg},
		{version("p", 1000001), api.ErrArg},
		{version("p-", 2), api.ErrArg},
		{version("p-", 1), api.OK},
		{version("pp", 1), api.OK},
		{version("p", 3), api.OK},
		{version("P", 1), api.ErrArg},
		{version("", 1), api.ErrArg},
		{version("p ", 1), api.ErrArg},
	} {
		if e := r.addPlan(x.p); e != x.want {
			t.Errorf("P1702: AddPlan of %s, %d: %v, not %v", x.p.Name, x.p.Version, e, x.want)
		}
		r.shows()
	}
	other := version("p", 2)
	other.Allowance++
	if e := r.addPlan(other); e != api.ErrIs {
		t.Errorf("P1702: another second version: %v", e)
	}
	bad := version("p", 1)
	bad.Burst = 0
	if e := r.addPlan(bad); e != api.ErrArg {
		t.Errorf("P6: a plan that may not be, of a version that is there: %v", e)
	}
	r.open()
}

// TestP1702Versions: many of them, of several names by turns.
func TestP1702Versions(t *testing.T) {
	r := newRig(t, 2048)
	for i := range 300 {
		x := version(goodNames[i%5], 1+i/5)
		x.Allowance, x.Cap = api.MaxUnits-i, i*i
		if e := r.addPlan(x); e != api.OK {
			t.Fatalf("P1702: %+v: %v", x, e)
		}
	}
	r.shows()
	r.open()
}

// TestP1702MaxPlans: 32 names, not one more; those that are there have more versions still.
func TestP1702MaxPlans(t *testing.T) {
	r := newRig(t, 1024)
	for i := range 32 {
		if e := r.addPlan(version(fmt.Sprint("n", i), 1)); e != api.OK || r.b.Plans() != i+1 {
			t.Fatalf("P1702: name %d: %v, Plans %d", i, e, r.b.Plans())
		}
	}
	for _, x := range []struct {
		p    api.Plan
		want api.Errno
	}{{version("more", 1), api.ErrMany}, {version("n", 1), api.ErrMany}, {version("more", 2), api.ErrArg}, {version("N", 1), api.ErrArg}, {version("n0", 1), api.ErrIs}, {version("n31", 3), api.ErrArg}, {version("n31", 2), api.OK}, {version("n0", 2), api.OK}, {version("zz", 1), api.ErrMany}} {
		if e := r.addPlan(x.p); e != x.want {
			t.Errorf("P1702: AddPlan of %s, %d: %v, not %v", x.p.Name, x.p.Version, e, x.want)
		}
	}
	if r.b.Plans() != 32 {
		t.Errorf("P1701: Plans %d", r.b.Plans())
	}
	r.open()
}

// TestP1702Close: account, statement and cursor at once; a term that was closed is not closed again.
func TestP1702Close(t *testing.T) {
	r := newRig(t, 1024)
	r.put(great("a", 1))
	for i := range 20 {
		name := goodNames[i%4]
		s, c := stated(name, 1+i/4), book.Cursor{On: i%3 > 0, Time: i * 7, Name: goodNames[i%5]}
		if e := r.close(mixed(name, i), s, c); e != api.OK {
			t.Fatalf("P1702: %v", e)
		}
		r.shows()
		again := s
		again.Over = 99
		if e := r.close(small(name, 500+i), again, book.Cursor{Time: 1 << 20}); e != api.ErrIs {
			t.Fatalf("P1702: closed again: %v", e)
		}
		if e := r.close(small("other", 500+i), s, book.Cursor{}); e != api.ErrIs {
			t.Fatalf("P1702: closed again for another: %v", e)
		}
		r.shows()
	}
	r.open()
	if e := r.close(small("a", 3), stated("nobody", 8), book.Cursor{On: true}); e != api.OK {
		t.Errorf("P1702: a statement of its own name: %v", e)
	}
	r.shows()
	if _, is := r.b.Account("nobody"); is {
		t.Error("P1702: a statement makes an account")
	}
}

// edges are numbers at a bound and beyond it, with the error that each has.
func edges(least, most int) map[int]api.Errno {
	return map[int]api.Errno{least: api.OK, least + 1: api.OK, most - 1: api.OK, most: api.OK, least - 1: api.ErrArg, most + 1: api.ErrArg, -1 << 63: api.ErrArg, 1<<63 - 1: api.ErrArg, -1 << 40: api.ErrArg, 1 << 60: api.ErrArg}
}

// TestP1702Bounds: each number of a statement and of a cursor, at its bounds and beyond them.
func TestP1702Bounds(t *testing.T) {
	base := newRig(t, 256)
	base.put(small("a", 1))
	for what, x := range map[string]struct {
		at          func(s *api.Statement, c *book.Cursor) *int
		least, most int
	}{
		"Term":     {func(s *api.Statement, c *book.Cursor) *int { return &s.Term }, 1, most40},
		"From":     {func(s *api.Statement, c *book.Cursor) *int { return &s.From }, 0, most53},
		"To":       {func(s *api.Statement, c *book.Cursor) *int { return &s.To }, 0, most53},
		"Granted":  {func(s *api.Statement, c *book.Cursor) *int { return &s.Granted }, 0, most53},
		"Consumed": {func(s *api.Statement, c *book.Cursor) *int { return &s.Consumed }, 0, most53},
		"Expired":  {func(s *api.Statement, c *book.Cursor) *int { return &s.Expired }, 0, most53},
		"Rolled":   {func(s *api.Statement, c *book.Cursor) *int { return &s.Rolled }, 0, most53},
		"Over":     {func(s *api.Statement, c *book.Cursor) *int { return &s.Over }, 0, most53},
		"Time":     {func(s *api.Statement, c *book.Cursor) *int { return &c.Time }, 0, 4000000000},
	} {
		for n, want := range edges(x.least, x.most) {
			r := base.copy()
			s, c := stated("a", 5), book.Cursor{On: true, Time: 3, Name: "a"}
			*x.at(&s, &c) = n
			if e := r.close(small("a", 2), s, c); e != want {
				t.Errorf("P1702: Close with %s %d: %v, not %v", what, n, e, want)
			}
			r.shows()
			r.open()
		}
	}
	for n, want := range edges(0, 4000000000) {
		for _, on := range []bool{false, true} {
			r := base.copy()
			if e := r.move(book.Cursor{On: on, Time: n}); e != want {
				t.Errorf("P1702: Move to %d: %v, not %v", n, e, want)
			}
			r.shows()
			r.open()
		}
	}
}

// TestP1702BoundNames: the names of a statement, and of a cursor.
func TestP1702BoundNames(t *testing.T) {
	r := newRig(t, 1024)
	for i, name := range slices.Concat(goodNames, badNames) {
		want := api.OK
		if !aName.MatchString(name) {
			want = api.ErrArg
		}
		if e := r.close(small("a", i), stated(name, 5), book.Cursor{}); e != want {
			t.Errorf("P1702: a statement of %q: %v", name, e)
		}
		if name == "" {
			want = api.OK
		}
		c := book.Cursor{On: true, Time: i, Name: name}
		if e := r.close(small("a", i), stated("b", 10+i), c); e != want {
			t.Errorf("P1702: Close with a cursor at %q: %v", name, e)
		}
		c.On = false
		if e := r.move(c); e != want {
			t.Errorf("P1702: Move to %q: %v", name, e)
		}
		r.shows()
	}
	r.open()
}

// TestP1702Order: of several errors of a call the first one is answered, with room on the disk and without.
func TestP1702Order(t *testing.T) {
	r := newRig(t, 1024)
	r.close(small("a", 1), stated("a", 1), book.Cursor{})
	for i := range 32 {
		r.addPlan(version(fmt.Sprint("n", i), 1))
	}
	inOrder(t, r, api.OK)
	fill(r)
	inOrder(t, r, api.ErrDiskFull)
	r.shows()
	r.open()
}

// inOrder makes calls that have several errors; last is what one without an error of its own is answered.
func inOrder(t *testing.T, r *rig, last api.Errno) {
	t.Helper()
	badPlan := version("n1", 1)
	badPlan.Rate = -1
	newTerm := 1000 + r.b.Commits()
	for why, bad := range badAccounts() {
		own := account.Check(bad)
		for i, x := range []struct {
			s    api.Statement
			c    book.Cursor
			want api.Errno
		}{
			{stated("A", 1), book.Cursor{}, api.ErrArg},
			{stated("a", 0), book.Cursor{}, api.ErrArg},
			{stated("a", most40+1), book.Cursor{}, api.ErrArg},
			{api.Statement{Name: "a", Term: 1, Over: -1}, book.Cursor{}, api.ErrArg},
			{stated("a", 1), book.Cursor{Name: "A"}, api.ErrArg},
			{stated("a", 1), book.Cursor{Time: -1}, api.ErrArg},
			{stated("a", 1), book.Cursor{}, own},
			{stated("a", newTerm), book.Cursor{}, own},
		} {
			if e := r.close(bad, x.s, x.c); e != x.want {
				t.Errorf("P6: Close of an account that may not be (%s), %d: %v, not %v", why, i, e, x.want)
			}
		}
		if e := r.put(bad); e != own {
			t.Errorf("P6: Put of an account that may not be (%s): %v, not %v", why, e, own)
		}
	}
	for i, x := range []struct{ got, want api.Errno }{
		{r.close(small("a", 1), stated("a", 1), book.Cursor{}), api.ErrIs},
		{r.close(small("a", 1), stated("a", newTerm), book.Cursor{}), last},
		{r.put(small("a", 1)), last},
		{r.addPlan(badPlan), api.ErrArg},
		{r.addPlan(version("n1", 1)), api.ErrIs},
		{r.addPlan(version("n1", 9)), api.ErrArg},
		{r.addPlan(version("more", 2)), api.ErrArg},
		{r.addPlan(version("more", 1)), api.ErrMany},
		{r.addPlan(version("n1", 1+r.b.Last("n1"))), last},
		{r.move(book.Cursor{Time: 4000000001}), api.ErrArg},
		{r.move(book.Cursor{Name: " "}), api.ErrArg},
		{r.move(book.Cursor{Time: 9}), last},
	} {
		if x.got != x.want {
			t.Errorf("P6: call %d: %v, not %v", i, x.got, x.want)
		}
	}
}

// fill puts tenants till there is too little room for a transaction.
func fill(r *rig) {
	r.t.Helper()
	for i := 0; r.b.Left() >= 64; i++ {
		if e := r.put(great(fmt.Sprint("fill", i), i)); e != api.OK {
			r.t.Fatalf("P1702: Put, with %d pages left: %v", r.b.Left(), e)
		}
	}
}

// TestP1702Full: below 64 pages nothing is done, though it would need less.
func TestP1702Full(t *testing.T) {
	for _, blocks := range []int{64, 67, 90, 128, 200, 333} {
		r := newRig(t, blocks)
		fill(r)
		wrote := r.d.Writes()
		for i, e := range []api.Errno{
			r.put(small("x", 1)), r.put(great("fill0", 99)),
			r.addPlan(version("x", 1)),
			r.close(small("x", 1), stated("x", 1), book.Cursor{On: true}),
			r.move(book.Cursor{}), r.move(book.Cursor{On: true, Time: 5, Name: "x"}),
		} {
			if e != api.ErrDiskFull {
				t.Errorf("P1702: of %d blocks %d are left, call %d: %v", blocks, r.b.Left(), i, e)
			}
		}
		if r.d.Writes() != wrote {
			t.Errorf("P1702: %d blocks are written where there is no room", r.d.Writes()-wrote)
		}
		r.shows()
		r.open()
		if e := r.put(small("x", 1)); e != api.ErrDiskFull {
			t.Errorf("P1702: opened again: %v", e)
		}
	}
}

// TestP1702JustRoom: with 64 pages left all is done, with 63 nothing: whichever call it is, however much it does.
func TestP1702JustRoom(t *testing.T) {
	laid := func(blocks int) *rig {
		r := newRig(t, blocks)
		r.addPlan(version("p", 1))
		r.put(great("a", 1))
		r.put(great(longName, 2))
		r.close(great("b", 3), stated("b", 1), book.Cursor{On: true, Time: 1, Name: "c"}) // it takes the most, so the others have room
		return r
	}
	free := laid(1000).b.Left()
	for _, left := range []int{62, 63, 64, 65} {
		want := api.OK
		if left < 64 {
			want = api.ErrDiskFull
		}
		for i, call := range []func(r *rig) api.Errno{
			func(r *rig) api.Errno { return r.put(small("a", 4)) },
			func(r *rig) api.Errno { return r.put(great("a", 4)) },
			func(r *rig) api.Errno { return r.put(great("aa", 4)) },
			func(r *rig) api.Errno { return r.put(great(longName, 4)) },
			func(r *rig) api.Errno { return r.addPlan(version("p", 2)) },
			func(r *rig) api.Errno { return r.addPlan(version("q", 1)) },
			func(r *rig) api.Errno { return r.close(great("b", 4), stated("b", 2), book.Cursor{}) },
			func(r *rig) api.Errno { return r.close(great("new", 4), stated("new", 1), book.Cursor{Name: longName}) },
			func(r *rig) api.Errno { return r.move(book.Cursor{Time: 4}) },
		} {
			r := laid(1000 - free + left)
			if r.b.Left() != left {
				t.Fatalf("P1702: Left %d, not %d", r.b.Left(), left)
			}
			if e := call(r); e != want {
				t.Errorf("P1702: with %d left, call %d: %v", left, i, e)
			}
			r.shows()
			r.open()
		}
	}
}

// TestP1702Move: the cursor alone is moved, and back to zero.
func TestP1702Move(t *testing.T) {
	r := newRig(t, 256)
	r.put(small("a", 1))
	for _, c := range []book.Cursor{{On: true}, {Time: 4000000000}, {Name: "a"}, {On: true, Time: 1, Name: longName}, {}, {}, {On: true, Time: 255, Name: "0"}, {On: true, Time: 16, Name: "ffff"}, {Name: "1"}} {
		if e := r.move(c); e != api.OK {
			t.Errorf("P1702: Move to %+v: %v", c, e)
		}
		r.shows()
		r.open()
	}
	if r.b.Commits() != 10 {
		t.Errorf("P1701: Commits %d, not 10", r.b.Commits())
	}
}

// TestP1701Odd: what no tenant, plan or statement has is not there, however it is asked.
func TestP1701Odd(t *testing.T) {
	r := newRig(t, 512)
	r.close(great("a", 1), stated("a", 10), book.Cursor{On: true, Time: 3, Name: "a"})
	r.addPlan(version("a", 1))
	for _, name := range []string{"a 00", "a 01", "a 0", "a !", "a  ", " a", "aa 00", "c", "p", "s", "a\x00", "a 000000000000000a", "A", "a~", "\x00", "a!"} {
		if a, is := r.b.Account(name); is || !rec.SameAccount(a, api.Account{}) {
			t.Errorf("P1701: Account(%q): %+v, %t", name, a, is)
		}
		if p, is := r.b.Plan(name, 1); is || p != (api.Plan{}) || r.b.Last(name) != 0 {
			t.Errorf("P1701: Plan(%q, 1): %+v, %t, Last %d", name, p, is, r.b.Last(name))
		}
		if s, is := r.b.Statement(name, 10); is || s != (api.Statement{}) {
			t.Errorf("P1701: Statement(%q, 10): %+v, %t", name, s, is)
		}
	}
	for _, n := range []int{9, 11, 1, 0, -10, 10 + 1<<32, 16, 1 << 63 >> 3, 10 - 1<<63} {
		if s, is := r.b.Statement("a", n); is || s != (api.Statement{}) {
			t.Errorf("P1701: Statement(a, %d): %+v, %t", n, s, is)
		}
	}
	if _, is := r.b.Statement("a", 10); !is {
		t.Error("P1701: the statement is not there")
	}
}

// TestP1702Dead: a book whose power went answers ErrDead ahead of any other error, and when the power is there again too.
func TestP1702Dead(t *testing.T) {
	for _, full := range []bool{false, true} {
		r := newRig(t, 256)
		r.put(small("a", 1))
		r.addPlan(version("p", 1))
		if full {
			fill(r)
		}
		kill(r.d)
		r.showsDead()
		r.d.Start()
		r.showsDead()
		r.start()
	}
}

// TestP1701Disks: a disk of a book is opened by another book alone; what one put the next one shows and goes on with.
func TestP1701Disks(t *testing.T) {
	r := newRig(t, 1024)
	for i := range 25 {
		name := goodNames[i%len(goodNames)]
		r.put(mixed(name, i))
		r.open()
		r.addPlan(version(name, 1+len(r.p.plans[name])))
		r.open()
		r.close(mixed("b", i), stated("b", 1+i), book.Cursor{On: true, Time: i, Name: name})
		r.open()
	}
	if diff := r.p.differs(opened(t, copyOf(t, r.d))); diff != "" {
		t.Errorf("P1701: on another disk with the same blocks: %s", diff)
	}
}
