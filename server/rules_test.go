package server_test

import (
	"slices"
	"strings"
	"testing"
	"unsafe"

	"toll/account"
	"toll/api"
	"toll/book"
	"toll/rec"
	"toll/server"
)

// TestP1Wild: whatever a request says, each call ends and none panics, and what may not be is refused.
func TestP1Wild(t *testing.T) {
	r := busy(t, 900)
	texts := []string{"", "a", "p", "ka", "root", "\x00", "\xff\xfe", strings.Repeat("a", 1<<16), strings.Repeat("é", 9), longName}
	numbers := []int{-1 << 63, -1 << 40, -1, 0, 1, 2, 1 << 31, 1 << 40, 1<<53 + 1, 1<<63 - 1}
	k := 0
	for kind := -1; kind <= 21; kind++ {
		for _, key := range append(texts, "knew") {
			for i := range 40 {
				k++
				text := func(n int) string { return texts[(k*n+i)%len(texts)] }
				number := func(n int) int { return numbers[(k/n+i*n)%len(numbers)] }
				q := api.Request{Kind: kind, Key: key, Id: number(1), N: number(3), TTL: number(2), Of: number(5), Name: text(3), Secret: text(7)}
				q.Plan = api.Plan{Name: text(1), Version: number(7), Allowance: number(2), Kind: i % 3, Anchor: number(3), Days: number(4), Cap: number(5), Mode: i % 2, Burst: number(6), Rate: number(2)}
				r.do(q)
			}
		}
	}
	for _, name := range texts {
		r.s.Account(name)
	}
	r.deep()
}

// lender hands out texts whose bytes it may write over.
type lender [][]byte

func (l *lender) text(s string) string {
	b := []byte(s)
	*l = append(*l, b)
	return unsafe.String(unsafe.SliceData(b), len(b))
}

// spoil writes over all that was handed out; what becomes of it is a name, so that it could be taken for one.
func (l *lender) spoil() {
	for _, b := range *l {
		for i := range b {
			b[i] = 'x'
		}
	}
	*l = nil
}

// TestP2HandedIn: nothing that is handed in is kept: written over behind the call it changes nothing.
func TestP2HandedIn(t *testing.T) {
	var l lender
	d := newDisk(t, 900)
	s := opened(t, d, l.text("root"), 0)
	l.spoil()
	r := &rig{t: t, d: d, s: s, m: newMirror("root", 0), passed: map[string][]int{}}
	does := func(q api.Request, want api.Answer) {
		t.Helper()
		lent := q
		lent.Key, lent.Name, lent.Secret, lent.Plan.Name = l.text(q.Key), l.text(q.Name), l.text(q.Secret), l.text(q.Plan.Name)
		was := lent
		x, e := s.Do(lent)
		if lent != was || lent != q {
			t.Errorf("P2: %+v was changed to %+v", q, lent)
		}
		l.spoil()
		if x != want || e != api.OK {
			t.Errorf("P2002: %+v: %+v, %v, not %+v", q, x, e, want)
		}
		r.m = r.m.does(q, func(int) bool { return true }).behind
		r.whole()
	}
	does(adds(byDays("p", 1, 10, 100)), told(1))
	does(adds(byDays("p", 2, 5, 50)), told(2))
	does(adds(byDays("q", 1, 10, 100)), told(1))
	does(tenant("anna", "key-1", "p", 1), told(1))
	does(tenant("bert", "key-2", "p", 1), told(1))
	r.ticks(5)
	does(hold("key-1", 1, 30), api.Answer{Left: 70, N: 30})
	does(commit("key-1", 2, 1, 10), api.Answer{Left: 90, N: 10})
	does(pack("key-2", 1, 5, 50), api.Answer{Left: 105, N: 2})
	does(change("anna", "p", 2), told(50))
	does(shows("xxxxx"), no(api.ErrAuth))
	does(shows("xxxx"), no(api.ErrAuth))
	does(closes(1), atEnd(0))
	r.ticks(10 * day)
	does(closes(1), told(1))
	does(terms("anna", 1), api.Answer{Statement: api.Statement{Name: "anna", Term: 1, To: 10, Granted: 150, Consumed: 10, Expired: 124, Rolled: 16}})
	does(closes(1), atEnd(1))
	does(shows("key-1"), api.Answer{Left: 66})
	does(tenant("xxxx", "root", "p", 1), no(api.ErrIs))
	does(tenant("xxxx", "xxxxx", "p", 1), told(1))
	does(tenant("anna", "xxxx", "p", 1), no(api.ErrIs))
	does(change("bert", "q", 1), told(100))
	r.deep()
}

// spoilAccount writes over all lists of an account, their spare room too.
func spoilAccount(a api.Account) {
	for i := range a.Lots[:cap(a.Lots)] {
		a.Lots[:cap(a.Lots)][i] = api.Lot{Id: 99, Granted: -1}
	}
	for i := range a.Holds[:cap(a.Holds)] {
		h := a.Holds[:cap(a.Holds)][i]
		for k := range h.Parts[:cap(h.Parts)] {
			h.Parts[:cap(h.Parts)][k] = api.Part{Lot: 99, N: -1}
		}
		a.Holds[:cap(a.Holds)][i] = api.Hold{Id: 99}
	}
	for i := range a.Window[:cap(a.Window)] {
		a.Window[:cap(a.Window)][i] = api.Entry{Id: 99}
	}
}

// TestP2Answered: what was answered is not changed by later calls, nor does it change them, its spare room neither.
func TestP2Answered(t *testing.T) {
	r := busy(t, 900)
	accounts := map[string]api.Account{}
	kept := map[string]api.Account{}
	for _, name := range r.s.Names() {
		accounts[name], _ = r.s.Account(name)
		kept[name] = r.m.accounts[name]
	}
	names := r.s.Names()
	was := slices.Clone(names)
	statement := r.did(terms("0", 1))
	said := statement
	for i := range 30 {
		r.do(pack("knew", 40+i, 1, 5))
		r.do(hold("ka", 40+i, 1))
		r.do(closes(1))
		r.do(tenant(some("t", i), some("kt", i), "p", 1))
		r.ticks(r.m.now + day)
	}
	for name, a := range accounts {
		if !rec.SameAccount(a, kept[name]) {
			t.Errorf("P2: the account of %s was changed by later calls", name)
		}
	}
	if !slices.Equal(names, was) || statement != said {
		t.Errorf("P2: %q, %+v were changed by later calls", names, statement)
	}
	for _, name := range r.s.Names() {
		a, _ := r.s.Account(name)
		spoilAccount(a)
	}
	names = r.s.Names()
	for i := range names[:cap(names)] {
		names[:cap(names)][i] = "x"
	}
	r.deep()
	r.did(shows("ka"))
	r.do(closes(100))
	r.deep()
}

// TestP3Again: the same calls in the same order answer the same.
func TestP3Again(t *testing.T) {
	for seed := range 20 {
		first := lives(t, thrown(500, uint64(seed)), 400, api.MHard, api.MOver)
		lives(t, thrown(500, uint64(seed+1000)), 400, api.MHard, api.MOver)
		again := lives(t, thrown(500, uint64(seed)), 400, api.MHard, api.MOver)
		if !slices.Equal(first.answers, again.answers) || first.d.Writes() != again.d.Writes() || first.s.Left() != again.s.Left() {
			t.Fatalf("P3: of seed %d", seed)
		}
	}
}

// TestP4Beside: an answer that is an error has nothing else, one that is none only what its kind says; beside ErrDead there is no answer.
func TestP4Beside(t *testing.T) {
	r := busy(t, 400)
	r.fills()
	seen := map[api.Errno]bool{}
	for k := range 600 {
		d := thrown(20, uint64(k))
		x, _ := r.do(d.request(1000, 100))
		if x.Err != api.OK && x != no(x.Err) {
			t.Errorf("P4: %+v", x)
		}
		seen[x.Err] = true
		r.ticks(r.m.now + k%2*day/4)
	}
	for _, e := range []api.Errno{api.ErrAuth, api.ErrKind, api.ErrArg, api.ErrNone, api.ErrIs, api.ErrDiskFull} {
		if !seen[e] {
			t.Errorf("P4: no request was answered %v", e)
		}
	}
}

// TestP5Refused: what is refused changes nothing that a later call could tell: a server that was asked all that may not be goes on as one that was not.
func TestP5Refused(t *testing.T) {
	first := cast(t, 600)
	plain, loud := first.copy(), first.copy()
	script := []api.Request{adds(byDays("s", 1, 4, 40)), tenant("e", "ke", "s", 1), change("a", "s", 1), hold("ka", 1, 5), commit("ka", 2, 1, 3), closes(2), closes(100), terms("a", 1), pack("kd", 1, 3, 300)}
	wrong := []api.Request{
		adds(byDays("s", 3, 4, 40)), adds(byDays("", 1, 4, 40)), adds(byDays("p", 1, 4, 40)),
		tenant("e", "root", "s", 1), tenant("a", "ke", "s", 1), tenant("f", "kf", "none", 1), tenant("F", "kf", "p", 1),
		change("x", "p", 1), change("a", "x", 1), closes(0), closes(101), terms("x", 1), terms("a", 99),
		shows("nobody"), shows("root"), {Kind: api.KClose, Key: "ka", N: 1}, {Kind: 99, Key: "root"},
	}
	for i, q := range script {
		for _, x := range []*rig{plain, loud} {
			x.ticks((10 + i) * day / 2)
		}
		for _, bad := range wrong {
			if x, _ := loud.do(bad); x.Err == api.OK {
				t.Errorf("P5: %+v is not refused", bad)
			}
		}
		x, _ := plain.do(q)
		if y, _ := loud.do(q); x != y {
			t.Errorf("P5: %+v: %+v, and behind what was refused %+v", q, x, y)
		}
	}
	loud.sameAs(plain, "P5")
	loud.deep()
}

// TestP7Two: servers on disks of their own do not see one another.
func TestP7Two(t *testing.T) {
	for seed := range 10 {
		d := thrown(900, uint64(seed)+77)
		both := [2]*life{begun(t, &d, 400, api.MHard, api.MOver), begun(t, &d, 400, api.MOver)}
		for len(d) > 0 {
			both[d.roll(2)].step(&d)
		}
		for _, x := range both {
			x.ends()
		}
	}
	a, b := newRig(t, 300, 0), newRig(t, 300, 7)
	a.did(adds(byDays("p", 1, 10, 100)))
	a.did(tenant("a", "ka", "p", 1))
	b.is(shows("ka"), no(api.ErrAuth))
	b.is(tenant("a", "ka", "p", 1), no(api.ErrNone))
	b.did(adds(byDays("p", 1, 5, 50)))
	b.did(tenant("a", "ka", "p", 1))
	a.ticks(9 * day)
	b.is(closes(1), atEnd(0))
	b.ticks(5 * day)
	a.is(closes(1), atEnd(0))
	b.is(closes(1), atEnd(1))
	a.is(terms("a", 1), no(api.ErrNone))
	kill(a.d)
	b.is(shows("ka"), api.Answer{Left: 66})
	a.do(shows("ka"))
}

// TestP9Keys: of two tenants that have one key, as a book of somebody else's may say, the first by its name has it.
func TestP9Keys(t *testing.T) {
	d := newDisk(t, 300)
	b, _ := book.Open(d)
	for i, name := range []string{"c", "a", "b"} {
		a, _ := account.New(name, "key", byDays("p", 1, 10, 10+i), 0)
		if e := b.Put(a); e != api.OK {
			t.Fatalf("P1702: %v", e)
		}
	}
	s := opened(t, d, "root", 0)
	s.Tick(1)
	if x, e := s.Do(shows("key")); x != (api.Answer{Left: 11}) || e != api.OK {
		t.Errorf("P9: %+v, %v", x, e)
	}
}

// TestWaysOnce: the gate is filled once: asked for it again no bucket is made anew.
func TestWaysOnce(t *testing.T) {
	r := cast(t, 600)
	r.did(shows("ka"))
	server.FillAgain(r.s)
	r.did(shows("ka"))
	r.did(tenant("e", "ke", "p", 1))
	r.ticks(11)
	server.FillAgain(r.s)
	r.did(shows("ke"))
}
