package account_test

import (
	"fmt"
	"math"
	"slices"
	"testing"

	"toll/account"
	"toll/api"
	"toll/rec"
)

// junk is what stands in spare room, scrawl what is written over memory: who takes either for his own shows it.
const (
	junk   = -7
	scrawl = -9
)

func lotOf(n int) api.Lot {
	return api.Lot{Id: n, Kind: n, From: n, Until: n, Granted: n, Consumed: n, Held: n, Expired: n, Rolled: n}
}

func partOf(n int) api.Part { return api.Part{Lot: n, N: n} }

func holdOf(n int) api.Hold {
	return api.Hold{Id: n, Parts: []api.Part{partOf(n)}, Over: n, Until: n}
}

func entryOf(n int) api.Entry {
	return api.Entry{Id: n, Answer: api.Answer{Err: api.Errno(n), Left: n, Over: n, N: n}}
}

// withRoom is a list with spare room behind it.
func withRoom[T any](l []T, of func(int) T) []T {
	n := len(l)
	l = slices.Clone(l)
	for range 20 {
		l = append(l, of(junk))
	}
	l = l[:cap(l)]
	for i := n; i < len(l); i++ {
		l[i] = of(junk)
	}
	return l[:n]
}

// roomy is an account with spare room behind each of its lists.
func roomy(a api.Account) api.Account {
	a = clone(a)
	for i, h := range a.Holds {
		a.Holds[i].Parts = withRoom(h.Parts, partOf)
	}
	a.Lots, a.Holds, a.Window = withRoom(a.Lots, lotOf), withRoom(a.Holds, holdOf), withRoom(a.Window, entryOf)
	return a
}

// image is what stands in the whole room of an account's lists.
func image(a api.Account) api.Account {
	a.Lots, a.Holds, a.Window = a.Lots[:cap(a.Lots)], a.Holds[:cap(a.Holds)], a.Window[:cap(a.Window)]
	a = clone(a)
	for i, h := range a.Holds {
		a.Holds[i].Parts = slices.Clone(h.Parts[:cap(h.Parts)])
	}
	return a
}

func scrawlOver[T any](l []T, of func(int) T) {
	l = l[:cap(l)]
	for i := range l {
		l[i] = of(scrawl)
	}
}

// spoil writes over all lists of an account, and over their spare room.
func spoil(a api.Account) {
	for _, h := range a.Holds[:cap(a.Holds)] {
		scrawlOver(h.Parts, partOf)
	}
	scrawlOver(a.Lots, lotOf)
	scrawlOver(a.Holds, holdOf)
	scrawlOver(a.Window, entryOf)
}

// calls are the calls that answer an account, at each of which another way is gone.
func calls() map[string]func(a api.Account) api.Account {
	all := map[string]func(a api.Account) api.Account{}
	for _, now := range []int{115 * day, 119 * day, 121 * day, 131 * day} {
		all[fmt.Sprintf("Sweep at %d", now)] = func(a api.Account) api.Account { return account.Sweep(a, now) }
		all[fmt.Sprintf("Change at %d", now)] = func(a api.Account) api.Account {
			b, _ := account.Change(a, byDays(3, 30, api.MHard), now)
			return b
		}
		for _, r := range []api.Request{
			hold(70, 5, 9), hold(42, 100, 9), hold(70, 5000, 9), hold(70, 0, 9), hold(40, 1, 1), hold(0, 1, 1), hold(3, 1, 1),
			commit(70, 40, 0), commit(70, 40, 12), commit(70, 40, 46), commit(70, 40, 47), commit(70, 44, 5), commit(70, 50, 1), commit(70, 41, 1),
			release(70, 40), release(70, 44), release(70, 50), release(70, 99), release(44, 44),
			pack(70, 5, 9), pack(41, 5, 9), pack(70, 5, 0), pack(60, 5, 9), show(), {Kind: 9},
		} {
			all[fmt.Sprintf("Do %+v at %d", r, now)] = func(a api.Account) api.Account {
				b, _, _ := account.Do(a, r, now)
				return b
			}
		}
	}
	return all
}

// some are accounts that may be: with something of everything, in hard mode, with as many of each thing as may be, with nothing.
func some(t *testing.T) []api.Account {
	hard := rich()
	hard.Plan.Mode = api.MHard
	full := rich()
	for i := range 9 {
		full.Lots = append(full.Lots, api.Lot{Id: 10 + i, Until: 200 * day, Granted: 1})
		full.Holds = append(full.Holds, api.Hold{Id: 61 + i, Over: i, Until: 125 * day})
	}
	full.Next = 30
	for i := range 7 {
		full.Window = append(full.Window, api.Entry{Id: 61 + i, Answer: ok(1, 2, 3)})
	}
	bare := rich()
	bare.Lots, bare.Holds, bare.Window = nil, nil, nil
	all := []api.Account{rich(), hard, full, bare, begun(t, byDays(30, 100, api.MHard), 115*day)}
	for _, a := range all {
		isChecked(t, "P1302", a, api.OK)
	}
	return all
}

// TestP2HandedIn: what is handed in stays, its spare room too, and what was answered holds when it is spoiled.
func TestP2HandedIn(t *testing.T) {
	for name, call := range calls() {
		for i, x := range some(t) {
			a := roomy(x)
			was := image(a)
			account.Check(a)
			got := call(a)
			if !rec.SameAccount(image(a), was) {
				t.Fatalf("P2: %s of account %d changed it", name, i)
			}
			want := clone(got)
			spoil(a)
			if !rec.SameAccount(got, want) || !rec.SameAccount(got, call(x)) {
				t.Fatalf("P2: %s of account %d keeps it", name, i)
			}
		}
	}
}

// TestP2Answers: they are new, also where nothing is done: who writes over them, and over their spare room, changes nothing else.
func TestP2Answers(t *testing.T) {
	for name, call := range calls() {
		for i, x := range some(t) {
			a := roomy(x)
			was := image(a)
			got, again := call(a), call(a)
			want := clone(again)
			spoil(got)
			if !rec.SameAccount(image(a), was) {
				t.Fatalf("P2: %s of account %d answers what was handed in", name, i)
			}
			if !rec.SameAccount(again, want) {
				t.Fatalf("P2: two answers of %s of account %d share memory", name, i)
			}
		}
	}
}

// TestP2Apart: no two lists of one answer share memory, also where those that were handed in did.
func TestP2Apart(t *testing.T) {
	for name, call := range calls() {
		for i, x := range some(t) {
			a := clone(x)
			shared := []api.Part{{Lot: 2, N: 1}, {Lot: 3, N: 1}}
			for k, h := range a.Holds { // each has the same parts, in the same memory
				for _, p := range h.Parts {
					at := slices.IndexFunc(a.Lots, func(l api.Lot) bool { return l.Id == p.Lot })
					a.Lots[at].Held -= p.N
				}
				a.Holds[k].Parts = shared
				a.Lots[0].Held++
				a.Lots[1].Held++
			}
			isChecked(t, "P1302", a, api.OK)
			isApart(t, fmt.Sprintf("%s of account %d", name, i), call(a))
		}
	}
	isApart(t, "New", begun(t, byDays(3, 10, api.MHard), 0))
}

// isApart writes over the parts of each hold, and sees that those of no other change.
func isApart(t *testing.T, what string, got api.Account) {
	t.Helper()
	for i := range got.Holds {
		want := clone(got)
		want.Holds[i].Parts = nil
		scrawlOver(got.Holds[i].Parts, partOf)
		got.Holds[i].Parts = nil
		if !rec.SameAccount(got, want) {
			t.Fatalf("P2: of %s the parts of two holds share memory", what)
		}
	}
}

// TestP2NewApart: two new accounts share nothing.
func TestP2NewApart(t *testing.T) {
	p := byDays(3, 10, api.MHard)
	a, b := begun(t, p, 0), begun(t, p, 0)
	spoil(a)
	if !rec.SameAccount(b, fresh(p, 0, 3, 10)) {
		t.Fatalf("P2: two new accounts share memory: %+v", b)
	}
}

// TestP2Chain: each account of a life stays as it was, whatever becomes of the others.
func TestP2Chain(t *testing.T) {
	var made, want []api.Account
	a := begun(t, byDays(30, 1000, api.MOver), 0)
	for i := 1; i < 40; i++ {
		r := []api.Request{hold(i, 3, 40), pack(i, 5, 90), hold(i, 9, 7), commit(i, i-3, 1), release(i, i-2), show()}[i%6]
		a, _, _ = account.Do(a, r, 2*i)
		if i%13 == 0 {
			a, _ = account.Change(a, byDays(5, 500, api.MOver), 2*i)
		}
		made, want = append(made, a), append(want, clone(a))
	}
	for i := range made {
		spoil(made[i])
		for j := i + 1; j < len(made); j++ {
			if !rec.SameAccount(made[j], want[j]) {
				t.Fatalf("P2: accounts %d and %d share memory", i, j)
			}
		}
	}
}

// TestP2NoList: none and an empty list are the same.
func TestP2NoList(t *testing.T) {
	none := rich()
	none.Lots, none.Holds, none.Window = none.Lots[3:], []api.Hold{{Id: 50, Over: 3, Until: 118 * day}}, nil
	empty := clone(none)
	empty.Window, empty.Holds[0].Parts = []api.Entry{}, []api.Part{}
	bare, hollow := clone(none), clone(none)
	bare.Lots, bare.Holds = nil, nil
	hollow.Lots, hollow.Holds, hollow.Window = []api.Lot{}, []api.Hold{}, []api.Entry{}
	for name, call := range calls() {
		if !rec.SameAccount(call(none), call(empty)) || !rec.SameAccount(call(bare), call(hollow)) {
			t.Fatalf("P2: %s tells no list and an empty one apart", name)
		}
	}
}

// TestP3Again: nothing is kept from call to call, whatever was asked in between.
func TestP3Again(t *testing.T) {
	want := map[string]api.Account{}
	for range 3 {
		for name, call := range calls() {
			got := call(rich())
			if was, is := want[name]; is && !rec.SameAccount(got, was) {
				t.Fatalf("P3: %s: %+v, then %+v", name, was, got)
			}
			want[name] = got
		}
		isChecked(t, "P3", rich(), api.OK)
		isChecked(t, "P3", spoiled(func(a *api.Account) { a.Lots[0].Kind = 9 }), api.ErrKind)
		isNew(t, "a", "k", byDays(3, 10, api.MHard), 5, fresh(byDays(3, 10, api.MHard), 0, 3, 10))
	}
}

// all asks for everything there is, of an account that may be any.
func all(a api.Account, r api.Request, now int) {
	account.Check(a)
	account.Sweep(a, now)
	account.Do(a, r, now)
	account.Change(a, r.Plan, now)
	account.Change(a, byDays(30, api.MaxUnits, api.MHard), now)
	account.New(a.Name, a.Key, r.Plan, now)
}

// TestP1Wild: accounts that may not be, numbers and ticks that are none: no call panics, and what is handed in stays.
func TestP1Wild(t *testing.T) {
	wild := []int{math.MinInt, math.MinInt + 1, -1 << 40, -1, 0, 1, 5, 40, 1 << 40, math.MaxInt - 1, math.MaxInt}
	for _, x := range wild {
		for _, y := range wild {
			a := api.Account{
				Name: "a", Key: "k", Plan: api.Plan{Mode: x, Allowance: y}, Term: x, From: y, To: x, Next: y, Over: x,
				Lots:   []api.Lot{lotOf(x), {Id: 5, Kind: y, From: x, Until: y, Granted: x, Held: y}, {Id: 5, From: math.MinInt, Until: math.MaxInt, Granted: math.MaxInt, Rolled: math.MinInt}, {Id: 1, Granted: 9, Until: 9}},
				Holds:  []api.Hold{holdOf(x), {Id: 40, Parts: []api.Part{{Lot: 5, N: x}, {Lot: 5, N: y}, {Lot: y, N: x}}, Over: y, Until: x}, {Id: x}, {Id: 1, Until: y}},
				Window: []api.Entry{entryOf(x), entryOf(y), entryOf(5), entryOf(x)},
			}
			was := clone(a)
			for _, now := range wild {
				for k := -1; k < 8; k++ {
					all(a, api.Request{Kind: k, Id: 70, N: x, TTL: y, Of: 40, Plan: a.Plan}, now)
					all(a, api.Request{Kind: k, Id: y, N: 5, TTL: 5, Of: x, Plan: byMonths(31, 5, 0)}, now)
				}
			}
			isKept(t, was, a)
		}
	}
}

// TestP1OneWild: accounts that may be but for one number.
func TestP1OneWild(t *testing.T) {
	for _, n := range append([]int{0, 1, 40, mostID, 1 << 53}, far...) {
		for _, f := range []func(a *api.Account){
			func(a *api.Account) { a.From = n },
			func(a *api.Account) { a.To = n },
			func(a *api.Account) { a.From, a.To = n, n },
			func(a *api.Account) { a.Next = n },
			func(a *api.Account) { a.Over = n },
			func(a *api.Account) { a.Plan.Mode = n },
			func(a *api.Account) { a.Lots[0] = lotOf(n) },
			func(a *api.Account) { a.Lots[1].Id = n },
			func(a *api.Account) { a.Lots[2].Held = n },
			func(a *api.Account) { a.Holds[0] = holdOf(n) },
			func(a *api.Account) { a.Holds[1].Parts[1].N = n },
			func(a *api.Account) { a.Holds[2].Until = n },
			func(a *api.Account) { a.Window[2] = entryOf(n) },
		} {
			a := spoiled(f)
			was := clone(a)
			for _, call := range calls() {
				call(a)
			}
			account.Check(a)
			isKept(t, was, a)
		}
	}
}

// TestP1Many: lists that are longer than any that may be.
func TestP1Many(t *testing.T) {
	a := rich()
	for i := range 700 {
		a.Lots = append(a.Lots, api.Lot{Id: i + 100, Until: 200 * day, Granted: 5, Held: 1})
		a.Holds = append(a.Holds, api.Hold{Id: i + 100, Parts: []api.Part{{Lot: i + 100, N: 1}}, Until: (110 + i%20) * day})
		a.Window = append(a.Window, api.Entry{Id: i + 100})
	}
	was := clone(a)
	for _, r := range []api.Request{hold(9000, 5, 5), hold(70, 2000, 5), commit(9000, 150, 1), release(9000, 799), pack(9000, 1, 1), show()} {
		all(a, r, 115*day)
	}
	isKept(t, was, a)
	isChecked(t, "P1302", a, api.ErrMany)
}

// FuzzAccounts looks for accounts, of bytes, that are not borne (P1), that are changed (P2), or that Check allows and that then become what it does not (P1306).
func FuzzAccounts(f *testing.F) {
	f.Add(rec.EncodeAccount(rich()), api.KHold, 70, 5, 9, 40, 115*day)
	f.Add(rec.EncodeAccount(rich()), api.KCommit, 70, 5, 9, 40, 121*day)
	f.Add(rec.EncodeAccount(rich()), api.KRelease, 39, 5, 9, 44, 130*day)
	f.Add(rec.EncodeAccount(api.Account{}), api.KPack, 1, 1, 1, 1, -1)
	f.Fuzz(func(t *testing.T, b []byte, kind, id, n, ttl, of, now int) {
		a, e := rec.ParseAccount(b)
		if e != api.OK {
			return
		}
		was := clone(a)
		r := api.Request{Kind: kind, Id: id, N: n, TTL: ttl, Of: of, Plan: a.Plan}
		all(a, r, now)
		isKept(t, was, a)
		if account.Check(a) != api.OK || now < 0 || now > api.LastTick {
			return
		}
		isSwept(t, a, now, swept(a, now))
		if place(a, id) >= 0 || a.Next == mostID || a.Over > 1<<52 { // beyond what any life comes to
			return
		}
		isDone(t, a, r, now)
		if want, e := changed(a, r.Plan, now); e == api.OK {
			isChanged(t, a, r.Plan, now, want)
		} else {
			isNotChanged(t, a, r.Plan, now, e)
		}
	})
}
