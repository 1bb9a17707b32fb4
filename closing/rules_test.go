package closing_test

import (
	"fmt"
	"math"
	"slices"
	"testing"

	"toll/account"
	"toll/api"
	"toll/closing"
	"toll/rec"
)

// junk is what stands in spare room, scrawl what is written over memory: who takes either for his own shows it.
const (
	junk   = -7
	scrawl = -9
)

func lotOf(n int) api.Lot {
	return api.Lot{Id: n, Kind: n, From: n, Until: n, Granted: n, Consumed: n, Held: n, Expired: n, Rolled: n}
}

func partOf(n int) api.Part { return api.Part{Lot: n, N: n} }

func holdOf(n int) api.Hold {
	return api.Hold{Id: n, Parts: []api.Part{partOf(n)}, Over: n, Until: n}
}

func entryOf(n int) api.Entry {
	return api.Entry{Id: n, Answer: api.Answer{Err: api.Errno(n), Left: n, Over: n, N: n}}
}

// withRoom is a list with spare room behind it.
func withRoom[T any](l []T, of func(int) T) []T {
	n := len(l)
	l = slices.Clone(l)
	for range 20 {
		l = append(l, of(junk))
	}
	l = l[:cap(l)]
	for i := n; i < len(l); i++ {
		l[i] = of(junk)
	}
	return l[:n]
}

// roomy is an account with spare room behind each of its lists.
func roomy(a api.Account) api.Account {
	a = clone(a)
	for i, h := range a.Holds {
		a.Holds[i].Parts = withRoom(h.Parts, partOf)
	}
	a.Lots, a.Holds, a.Window = withRoom(a.Lots, lotOf), withRoom(a.Holds, holdOf), withRoom(a.Window, entryOf)
	return a
}

// image is what stands in the whole room of an account's lists.
func image(a api.Account) api.Account {
	a.Lots, a.Holds, a.Window = a.Lots[:cap(a.Lots)], a.Holds[:cap(a.Holds)], a.Window[:cap(a.Window)]
	a = clone(a)
	for i, h := range a.Holds {
		a.Holds[i].Parts = slices.Clone(h.Parts[:cap(h.Parts)])
	}
	return a
}

func scrawlOver[T any](l []T, of func(int) T) {
	l = l[:cap(l)]
	for i := range l {
		l[i] = of(scrawl)
	}
}

// spoil writes over all lists of an account, and over their spare room.
func spoil(a api.Account) {
	for _, h := range a.Holds[:cap(a.Holds)] {
		scrawlOver(h.Parts, partOf)
	}
	scrawlOver(a.Lots, lotOf)
	scrawlOver(a.Holds, holdOf)
	scrawlOver(a.Window, entryOf)
}

// some are accounts that may be, by what they have; each one's term ends on day 130.
func some(t *testing.T) map[string]api.Account {
	all := map[string]api.Account{
		"of everything": rich(),
		"no holds": spoiled(func(a *api.Account) {
			a.Holds = nil
			for i := range a.Lots {
				a.Lots[i].Held = 0
			}
		}),
		"nothing":            spoiled(func(a *api.Account) { a.Lots, a.Holds, a.Window = nil, nil, nil }),
		"no cap":             spoiled(func(a *api.Account) { a.Plan.Cap = 0 }),
		"lots that all stay": spoiled(func(a *api.Account) { a.To, a.From = 130, 129; stretch(a, 140*day) }),
		"lots that all end":  spoiled(func(a *api.Account) { stretch(a, 130*day) }),
		"a plan of months":   spoiled(func(a *api.Account) { a.Plan = byMonths(31, 90, 12) }),
		"a new one":          begun(t, byDays(15, 100, 7), 115*day),
	}
	for name, a := range all {
		isAllowed(t, "P1302: "+name, a)
		isClosed(t, a, 130*day)
	}
	return all
}

// stretch has all lots end at one tick.
func stretch(a *api.Account, until int) {
	for i := range a.Lots {
		a.Lots[i].Until = until
	}
}

// ticks are some at which the accounts of some are not due, and some at which they are.
var ticks = []int{0, 115 * day, 130*day - 1, 130 * day, 131*day + 5, 500 * day, api.LastTick}

// TestP2HandedIn: what is handed in stays, its spare room too, and what was answered holds when it is spoiled.
func TestP2HandedIn(t *testing.T) {
	for name, x := range some(t) {
		for _, now := range ticks {
			a := roomy(x)
			was := image(a)
			due := closing.Due(a, now)
			got, s, e := closing.Close(a, now)
			if !rec.SameAccount(image(a), was) {
				t.Fatalf("P2: Close at %d of an account with %s changed it", now, name)
			}
			if due == (e != api.OK) {
				t.Fatalf("P1402: at %d: %t, %v", now, due, e)
			}
			want := clone(got)
			spoil(a)
			again, u, _ := closing.Close(x, now)
			if !rec.SameAccount(got, want) || !rec.SameAccount(got, again) || s != u {
				t.Fatalf("P2: Close at %d of an account with %s keeps it", now, name)
			}
		}
	}
}

// TestP2Answers: they are new: who writes over them, and over their spare room, changes nothing else.
func TestP2Answers(t *testing.T) {
	for name, x := range some(t) {
		for _, now := range ticks {
			a := roomy(x)
			was := image(a)
			got, _, _ := closing.Close(a, now)
			again, _, _ := closing.Close(a, now)
			want := image(again)
			spoil(got)
			if !rec.SameAccount(image(a), was) {
				t.Fatalf("P2: Close at %d of an account with %s answers what was handed in", now, name)
			}
			if !rec.SameAccount(image(again), want) {
				t.Fatalf("P2: two answers of Close at %d of an account with %s share memory", now, name)
			}
		}
	}
}

// TestP2Chain: each account of a row of terms stays as it was, whatever becomes of the others.
func TestP2Chain(t *testing.T) {
	for name, a := range some(t) {
		var made, want []api.Account
		for range 6 {
			made, want = append(made, a), append(want, image(a))
			a, _, _ = closing.Close(a, a.To*day)
			a, _, _ = account.Do(a, pack(900, 5, 9000), a.From*day)
		}
		for i := range made {
			for j := i; j < len(made); j++ {
				if !rec.SameAccount(image(made[j]), want[j]) {
					t.Fatalf("P2: of an account with %s, the ones of terms %d and %d share memory", name, i, j)
				}
			}
			spoil(made[i])
		}
	}
}

// TestP2NoList: none and an empty list are the same.
func TestP2NoList(t *testing.T) {
	none := spoiled(func(a *api.Account) {
		a.Lots, a.Holds, a.Window = a.Lots[4:], []api.Hold{{Id: 50, Over: 3, Until: 118 * day}}, nil
	})
	empty := clone(none)
	empty.Window, empty.Holds[0].Parts = []api.Entry{}, []api.Part{}
	bare, hollow := clone(none), clone(none)
	bare.Lots, bare.Holds = nil, nil
	hollow.Lots, hollow.Holds, hollow.Window = []api.Lot{}, []api.Hold{}, []api.Entry{}
	for _, x := range [][2]api.Account{{none, empty}, {bare, hollow}} {
		b, s := isClosed(t, x[0], 130*day)
		c, u := isClosed(t, x[1], 130*day)
		if s != u || !rec.SameAccount(b, c) {
			t.Fatalf("P2: no list and an empty one are told apart: %+v, %+v", b, c)
		}
	}
}

// TestP3Again: nothing is kept from call to call, whatever was asked in between.
func TestP3Again(t *testing.T) {
	type told struct {
		a api.Account
		s api.Statement
		e api.Errno
	}
	want := map[string]told{}
	for range 3 {
		for name, a := range some(t) {
			for _, now := range ticks {
				var got told
				got.a, got.s, got.e = closing.Close(a, now)
				key := fmt.Sprintf("%s at %d", name, now)
				if was, is := want[key]; is && (got.s != was.s || got.e != was.e || !rec.SameAccount(got.a, was.a)) {
					t.Fatalf("P3: %s: %+v, then %+v", key, was, got)
				}
				want[key] = got
			}
		}
	}
}

// bears asks for everything there is, of an account that may be any, and sees that it stays.
func bears(t *testing.T, a api.Account, now int) {
	t.Helper()
	was := clone(a)
	closing.Due(a, now)
	if b, s, e := closing.Close(a, now); e != api.OK && (s != (api.Statement{}) || !rec.SameAccount(b, api.Account{})) {
		t.Fatalf("P4: Close(%+v, %d): %+v, %+v, %v", a, now, b, s, e)
	}
	isKept(t, was, a)
}

var wild = []int{math.MinInt, math.MinInt + 1, -1 << 40, -1, 0, 1, 5, 40, 1 << 40, 1 << 53, 1 << 62, math.MaxInt - 1, math.MaxInt}

// TestP1Wild: accounts that may not be, and ticks that are none: no call panics.
func TestP1Wild(t *testing.T) {
	for _, x := range wild {
		for _, y := range wild {
			for _, p := range []api.Plan{{Mode: x, Allowance: y, Cap: x, Days: y, Kind: api.TDays}, byDays(3, 10, 4), byMonths(31, 10, 4)} {
				a := api.Account{
					Name: "a", Key: "k", Plan: p, Term: x, From: y, To: x, Next: y, Over: x,
					Lots:   []api.Lot{lotOf(x), {Id: 5, Kind: y, From: x, Until: y, Granted: x, Held: y}, {Id: 5, From: math.MinInt, Until: math.MaxInt, Granted: math.MaxInt, Rolled: math.MinInt}, {Id: 1, Granted: x, Rolled: y, Until: 0}},
					Holds:  []api.Hold{holdOf(x), {Id: 40, Parts: []api.Part{{Lot: 5, N: x}, {Lot: 5, N: y}, {Lot: y, N: x}}, Over: y, Until: x}, {Id: x}, {Id: 1, Until: y}},
					Window: []api.Entry{entryOf(x), entryOf(y), entryOf(5), entryOf(x)},
				}
				for _, now := range wild {
					bears(t, a, now)
				}
				a.To = 5
				for _, now := range wild {
					bears(t, a, now)
				}
			}
		}
	}
}

// TestP1OneWild: accounts that may be but for one number.
func TestP1OneWild(t *testing.T) {
	for _, n := range wild {
		for _, f := range []func(a *api.Account){
			func(a *api.Account) { a.Term = n },
			func(a *api.Account) { a.From = n },
			func(a *api.Account) { a.To = n },
			func(a *api.Account) { a.Next = n },
			func(a *api.Account) { a.Over = n },
			func(a *api.Account) { a.Plan.Cap = n },
			func(a *api.Account) { a.Plan.Days = n },
			func(a *api.Account) { a.Lots[0] = lotOf(n) },
			func(a *api.Account) { a.Lots[1].Id = n },
			func(a *api.Account) { a.Lots[2].Held = n },
			func(a *api.Account) { a.Lots[4].Until = n },
			func(a *api.Account) { a.Holds[0] = holdOf(n) },
			func(a *api.Account) { a.Holds[1].Parts[1].N = n },
			func(a *api.Account) { a.Holds[1].Parts[1].Lot = n },
			func(a *api.Account) { a.Window[2] = entryOf(n) },
		} {
			for _, now := range append(wild, 130*day-1, 130*day, api.LastTick) {
				bears(t, spoiled(f), now)
			}
		}
	}
}

// TestP1Many: lists that are longer than any that may be.
func TestP1Many(t *testing.T) {
	a := rich()
	for i := range 700 {
		a.Lots = append(a.Lots, api.Lot{Id: i + 100, Until: (i % 300) * day, Granted: 5, Held: 1})
		a.Holds = append(a.Holds, api.Hold{Id: i + 100, Parts: []api.Part{{Lot: i + 100, N: 1}}, Until: (110 + i%20) * day})
		a.Window = append(a.Window, api.Entry{Id: i + 100})
	}
	bears(t, a, 129*day)
	bears(t, a, 130*day)
}

// FuzzAccounts looks for accounts, of bytes, that are not borne (P1), that are changed (P2), or that Check allows and that are closed to another than they must be.
func FuzzAccounts(f *testing.F) {
	f.Add(rec.EncodeAccount(rich()), 130*day)
	f.Add(rec.EncodeAccount(rich()), 130*day-1)
	f.Add(rec.EncodeAccount(spoiled(func(a *api.Account) { a.Plan = byMonths(31, 90, 12) })), api.LastTick)
	f.Add(rec.EncodeAccount(api.Account{}), -1)
	f.Fuzz(func(t *testing.T, b []byte, now int) {
		a, e := rec.ParseAccount(b)
		if e != api.OK {
			return
		}
		bears(t, a, now)
		if account.Check(a) == api.OK {
			isTold(t, a, now)
			isTold(t, a, a.To*day)
		}
	})
}
