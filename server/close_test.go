package server_test

import (
	"fmt"
	"slices"
	"testing"

	"toll/account"
	"toll/api"
	"toll/book"
	"toll/disk"
	"toll/rec"
)

// inTerms holds in which term each tenant is, by names, against what was worked out by hand.
func (r *rig) inTerms(want ...int) {
	r.t.Helper()
	var got []int
	for _, name := range r.s.Names() {
		a, _ := r.s.Account(name)
		got = append(got, a.Term)
	}
	if !slices.Equal(got, want) {
		r.t.Errorf("P2002: the tenants %q are in terms %v, not %v", r.s.Names(), got, want)
	}
}

// TestP2002CloseBounds: N is 1 to 100.
func TestP2002CloseBounds(t *testing.T) {
	r := newRig(t, 1000, 0)
	r.did(adds(byDays("p", 1, 1, 9)))
	r.did(tenant("a", "ka", "p", 1))
	r.ticks(250 * day)
	for _, n := range []int{0, -1, 101, 1000, -1 << 63, 1<<63 - 1} {
		r.is(closes(n), no(api.ErrArg))
	}
	r.inTerms(1)
	r.is(closes(1), told(1))
	r.is(closes(100), told(100))
	r.is(closes(0), no(api.ErrArg))
	r.is(closes(101), no(api.ErrArg))
	r.is(closes(99), told(99))
	r.is(closes(100), atEnd(50))
	r.inTerms(251)
	r.deep()
}

// TestP2002CloseNothing: a run that closes nothing is at its end at once, and leaves nothing.
func TestP2002CloseNothing(t *testing.T) {
	r := newRig(t, 600, 0)
	r.is(closes(1), atEnd(0))
	r.is(closes(100), atEnd(0))
	r.did(adds(byDays("p", 1, 10, 100)))
	r.did(tenant("a", "ka", "p", 1))
	r.ticks(10*day - 1)
	commits := r.s.Commits()
	r.is(closes(100), atEnd(0))
	if r.s.Commits() != commits {
		t.Errorf("P2002: %d transactions", r.s.Commits()-commits)
	}
	r.deep()
	r.ticks(10 * day)
	r.is(closes(100), atEnd(1))
	r.is(closes(100), atEnd(0))
	r.inTerms(2)
	r.deep()
}

// TestP2002CloseTime: a run goes on at its own Time while the time goes on, and behind an opening; the next one closes the rest.
func TestP2002CloseTime(t *testing.T) {
	r := cast(t, 600) // a, b, c: 10 days; d: 3 days
	r.ticks(13 * day) // 1, 1, 1 and 4 terms are over
	r.is(closes(2), told(2))
	r.inTerms(2, 2, 1, 1)
	r.ticks(20 * day) // 1, 1, 1 and 2 more
	r.is(closes(1), told(1))
	r.inTerms(2, 2, 2, 1)
	r.is(closes(1), told(1))
	r.opens("root", 20*day)
	r.is(closes(100), atEnd(3))
	r.inTerms(2, 2, 2, 5)
	r.is(closes(100), atEnd(5))
	r.inTerms(3, 3, 3, 7)
	r.is(closes(1), atEnd(0))
	r.deep()
}

// TestP2002CloseExact: a run that has closed as many as it was asked for is at its end, if there is no other.
func TestP2002CloseExact(t *testing.T) {
	r := cast(t, 600)
	r.ticks(10 * day) // 1, 1, 1 and 3
	for n := 1; n <= 9; n++ {
		c := r.copy()
		for k := 0; k < 6; k += n {
			if k+n < 6 {
				c.is(closes(n), told(n))
			} else {
				c.is(closes(n), atEnd(6-k))
			}
		}
		c.inTerms(2, 2, 2, 4)
		c.deep()
		c.is(closes(n), atEnd(0))
	}
}

// TestP2002CloseLess: where Now() is below the run's Time, behind an opening, the run goes on at its Time.
func TestP2002CloseLess(t *testing.T) {
	r := cast(t, 600)
	r.ticks(13 * day)
	r.is(closes(1), told(1))
	for _, now := range []int{0, 1, 3*day - 1, 10*day - 1, 12 * day, 13*day - 1} {
		c := r.copy()
		c.opens("root", now)
		c.is(closes(2), told(2))
		c.is(closes(100), atEnd(4))
		c.inTerms(2, 2, 2, 5)
		c.is(closes(100), atEnd(0))
		c.deep()
	}
}

// TestP2002CloseCome: a tenant that comes between two pieces of a run, or changes; ahead of where the run is, there, and behind.
func TestP2002CloseCome(t *testing.T) {
	r := cast(t, 900)
	r.ticks(13 * day)
	r.is(closes(1), told(1)) // it looks at b
	less := r.copy()
	for _, name := range []string{"0", "aa", "bb", "dd", "z"} {
		r.did(tenant(name, "k"+name, "q", 1))
	}
	r.is(change("a", "q", 1), told(50*7/10))
	r.is(change("b", "q", 1), no(api.ErrOver))
	r.is(hold("kb", 1, 1), api.Answer{Err: api.ErrQuota})
	r.ticks(20 * day)
	r.is(closes(100), atEnd(6))
	//        0  a  aa b bb c  d dd z
	r.inTerms(1, 2, 1, 2, 1, 2, 5, 1, 1)
	r.deep()
	r.is(closes(100), atEnd(2+1+2+1+2+1+2+2+2))
	less.opens("root", 5*day) // at which those that come are over at the run's Time
	for _, name := range []string{"0", "aa", "bb", "dd", "z"} {
		less.did(tenant(name, "k"+name, "q", 1))
	}
	less.is(change("c", "q", 1), told(25))
	less.is(change("b", "q", 2), told(30))
	less.is(closes(100), atEnd(2+2+2+4+2+2)) // b, bb, c, d, dd, z: b and c have terms of 3 days now
	//           0  a  aa b bb c  d dd z
	less.inTerms(1, 2, 1, 3, 3, 3, 5, 3, 3)
	less.deep()
}

// TestP2002CloseHolds: what a term that is closed comes to.
func TestP2002CloseHolds(t *testing.T) {
	r := cast(t, 600)
	r.did(hold("ka", 1, 30))
	r.did(commit("ka", 2, 1, 20))
	r.did(pack("ka", 3, 7, 100000))
	r.did(api.Request{Kind: api.KHold, Key: "ka", Id: 4, N: 50, TTL: 100000})
	r.ticks(11 * day)
	r.is(closes(1), told(1))
	a, _ := r.s.Account("a")
	lots := []api.Lot{
		{Id: 2, Kind: api.LPack, From: 10, Until: 100010, Granted: 7},
		{Id: 3, From: 10 * day, Until: 20 * day, Granted: 100},
		{Id: 4, Kind: api.LRoll, From: 10 * day, Until: 20 * day, Granted: 33},
	}
	if !slices.Equal(a.Lots, lots) || len(a.Holds) != 0 || a.Term != 2 || a.From != 10 || a.To != 20 || len(a.Window) != 4 {
		t.Errorf("P2002: %+v", a)
	}
	r.is(terms("a", 1), api.Answer{Statement: api.Statement{Name: "a", Term: 1, To: 10, Granted: 100, Consumed: 20, Expired: 47, Rolled: 33}})
	r.is(commit("ka", 5, 4, 1), no(api.ErrNone))
	r.is(commit("ka", 2, 4, 1), api.Answer{Left: 80, N: 20})
	r.is(shows("ka"), api.Answer{Left: 140})
	r.deep()
}

// owed is a rig with tenants of whom many terms are over, of all kinds of plans.
func owed(t testing.TB, blocks int) *rig {
	t.Helper()
	r := cast(t, blocks)
	r.did(adds(api.Plan{Name: "m", Version: 1, Allowance: 31, Kind: api.TMonth, Anchor: 31, Cap: 5, Mode: api.MOver, Burst: 50, Rate: 50}))
	r.did(tenant("m", "km", "m", 1))
	r.did(tenant("0", "k0", "q", 2))
	r.ticks(50)
	for i, name := range []string{"a", "c", "d", "m", "0"} {
		r.did(hold("k"+name, 1, 10+i))
		r.did(commit("k"+name, 2, 1, 5+i))
		r.did(pack("k"+name, 3, 3+i, (2+5*i)*day))
		r.did(api.Request{Kind: api.KHold, Key: "k" + name, Id: 4, N: 4 + i, TTL: 100000})
	}
	r.ticks(33 * day)
	return r
}

// sameAs holds all that there is in the end against another rig's, but for the time.
func (r *rig) sameAs(other *rig, what string) {
	r.t.Helper()
	for _, name := range other.s.Names() {
		a, _ := r.s.Account(name)
		b, _ := other.s.Account(name)
		if !rec.SameAccount(a, b) {
			r.t.Fatalf("T6: %s: %s: %+v, not %+v", what, name, a, b)
		}
		for n := 1; n <= b.Term; n++ {
			x, _ := r.s.Do(terms(name, n))
			y, _ := other.s.Do(terms(name, n))
			if x != y {
				r.t.Fatalf("T6: %s: the statement of %s, %d: %+v, not %+v", what, name, n, x, y)
			}
		}
	}
	if !slices.Equal(r.s.Names(), other.s.Names()) || r.s.Commits() != other.s.Commits() || r.s.Left() != other.s.Left() {
		r.t.Fatalf("T6: %s: %q, %d, %d, not %q, %d, %d", what, r.s.Names(), r.s.Commits(), r.s.Left(), other.s.Names(), other.s.Commits(), other.s.Left())
	}
}

// TestT6Pieces: a run cut into pieces of any size, while the time goes on and the server is opened anew, comes to what one run comes to.
func TestT6Pieces(t *testing.T) {
	first := owed(t, 900)
	one := first.copy()
	all := one.did(closes(100))
	if all.Left != 1 || all.N < 20 {
		t.Fatalf("T6: %+v", all)
	}
	one.deep()
	for size := 1; size <= all.N+1; size++ {
		r := first.copy()
		for k := 0; ; k++ {
			x := r.did(closes(1 + (size-1)*(k%2+1)/2)) // now this many, now half
			if x.Left == 1 {
				break
			}
			r.ticks(33*day + k*3*day)
			if k%3 == size%3 {
				r.opens("root", r.m.now)
			}
		}
		r.sameAs(one, fmt.Sprint("pieces of ", size))
		r.deep()
	}
}

// TestT6Cuts: a run that is cut off at each write, and run again, is as one run alone.
func TestT6Cuts(t *testing.T) {
	first := owed(t, 900)
	one := first.copy()
	all := one.did(closes(100))
	cuts := 0
	for ; ; cuts++ {
		r := first.copy()
		r.d.Cut(cuts)
		if _, e := r.do(closes(100)); e == api.OK {
			break
		}
		r.do(closes(100))
		r.starts(33*day + cuts)
		done := r.s.Commits() - first.s.Commits()
		want := told(1)
		if done == all.N {
			want = atEnd(0)
		} else if done == all.N-1 {
			want = atEnd(1)
		}
		r.is(closes(1), want)
		r.do(closes(100))
		r.sameAs(one, fmt.Sprintf("cut off behind %d writes", cuts))
	}
	if cuts < 3*all.N {
		t.Errorf("T6: %d writes of %d terms", cuts, all.N)
	}
}

// TestT6Often: a run that is cut off again and again, each time behind a few writes more.
func TestT6Often(t *testing.T) {
	first := owed(t, 900)
	one := first.copy()
	one.did(closes(100))
	for step := 1; step < 40; step += 2 {
		r := first.copy()
		for k := 1; ; k++ {
			r.d.Cut(step*k%97 + k/3)
			x, e := r.do(closes(1 + k%6))
			if e == api.OK && x.Left == 1 {
				break
			}
			if e != api.OK {
				r.starts(r.m.now + k)
			}
			if k > 500 {
				t.Fatal("T6: it does not come to an end")
			}
		}
		r.d.Start()
		r.sameAs(one, fmt.Sprint("cut off by steps of ", step))
		r.deep()
	}
}

// elses is a disk with a book of somebody else's: these accounts, and a cursor.
func elses(t *testing.T, blocks int, c book.Cursor, all ...api.Account) *disk.Disk {
	t.Helper()
	d := newDisk(t, blocks)
	b, _ := book.Open(d)
	for _, a := range all {
		if e := b.Put(a); e != api.OK {
			t.Fatalf("P1702: %v", e)
		}
	}
	if e := b.Move(c); e != api.OK {
		t.Fatalf("P1702: %v", e)
	}
	return d
}

// came is an account that came at tick 0, with terms of 10 days.
func came(name string) api.Account {
	a, _ := account.New(name, "k"+name, byDays("p", 1, 10, 100), 0)
	return a
}

// TestP2002CloseElse: cursors of somebody else's that a book may have: of a Name that is nobody's, of none, of a run that is at its end, of one that is not on.
func TestP2002CloseElse(t *testing.T) {
	for i, x := range []struct {
		c    book.Cursor
		want []api.Answer
	}{
		{book.Cursor{}, []api.Answer{atEnd(6), atEnd(0)}},
		{book.Cursor{Time: 5, Name: "b"}, []api.Answer{atEnd(6), atEnd(0)}},
		{book.Cursor{On: true, Time: 10 * day}, []api.Answer{atEnd(3), atEnd(3), atEnd(0)}},
		{book.Cursor{On: true, Time: 10 * day, Name: "b"}, []api.Answer{atEnd(2), atEnd(4), atEnd(0)}},
		{book.Cursor{On: true, Time: 10 * day, Name: "aa"}, []api.Answer{atEnd(2), atEnd(4), atEnd(0)}},
		{book.Cursor{On: true, Time: 10 * day, Name: "c"}, []api.Answer{atEnd(1), atEnd(5), atEnd(0)}},
		{book.Cursor{On: true, Time: 10 * day, Name: "d"}, []api.Answer{atEnd(0), atEnd(6), atEnd(0)}},
		{book.Cursor{On: true, Time: 10*day - 1, Name: "a"}, []api.Answer{atEnd(0), atEnd(6), atEnd(0)}},
		{book.Cursor{On: true, Time: last, Name: "c"}, []api.Answer{told(100)}},
	} {
		s := opened(t, elses(t, 600, x.c, came("a"), came("b"), came("c")), "root", 20*day)
		for k, want := range x.want {
			if got, e := s.Do(closes(100)); got != want || e != api.OK {
				t.Errorf("P2002: cursor %d, %+v: request %d: %+v, %v, not %+v", i, x.c, k, got, e, want)
			}
		}
	}
}

// TestP2002CloseElseCut: where the power goes while such a run is ended, it is ended behind the opening.
func TestP2002CloseElseCut(t *testing.T) {
	for cut := 0; ; cut++ {
		d := elses(t, 600, book.Cursor{On: true, Time: 5, Name: "a"}, came("a"))
		s := opened(t, d, "root", 10*day)
		d.Cut(cut)
		x, e := s.Do(closes(1))
		if !d.Dead() {
			break
		}
		if e != api.ErrDead || x != (api.Answer{}) {
			t.Fatalf("P2002: the power going behind %d writes: %+v, %v", cut, x, e)
		}
		d.Start()
		s = opened(t, d, "root", 10*day)
		for range 2 {
			x, _ = s.Do(closes(1))
		}
		if a, _ := s.Account("a"); a.Term != 2 || x.Err != api.OK {
			t.Fatalf("T6: cut off behind %d writes: %+v, %+v", cut, x, a)
		}
	}
}

// TestP1CloseElse: an account of somebody else's whose next term a book cannot have is not closed; what was closed ahead of it is told.
func TestP1CloseElse(t *testing.T) {
	b := came("b")
	b.Term = 1 << 40
	s := opened(t, elses(t, 600, book.Cursor{}, came("a"), b, came("c")), "root", 20*day)
	for k, want := range []api.Answer{told(2), no(api.ErrArg), no(api.ErrArg)} {
		if x, e := s.Do(closes(9)); x != want || e != api.OK {
			t.Errorf("P1: request %d: %+v, %v, not %+v", k, x, e, want)
		}
	}
	if got, _ := s.Account("b"); !rec.SameAccount(got, b) {
		t.Errorf("P5: %+v", got)
	}
}
