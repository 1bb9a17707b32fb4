package account_test

import (
	"testing"

	"toll/account"
	"toll/api"
)

// dice are bytes that a life is made of; behind their end they are noughts.
type dice []byte

func (d *dice) roll(n int) int {
	if len(*d) == 0 {
		return 0
	}
	k := int((*d)[0])
	*d = (*d)[1:]
	return k % n
}

// pick is one of several things.
func pick[T any](d *dice, from ...T) T {
	return from[d.roll(len(from))]
}

// thrown are so many dice, always the same of the same seed.
func thrown(n int, seed uint64) dice {
	d := make(dice, n)
	for i := range d {
		seed = seed*6364136223846793005 + 1442695040888963407
		d[i] = byte(seed >> 56)
	}
	return d
}

// bent is what a life goes for: of all kinds some, holds, packs; and how fast it goes.
type bent struct {
	kinds, steps []int
}

func (d *dice) bent() bent {
	fast, slow := []int{0, 0, 1, 1, 2, 5, 17, 200, 1000}, []int{0, 0, 0, 0, 1}
	return pick(d,
		bent{[]int{api.KHold, api.KHold, api.KHold, api.KCommit, api.KCommit, api.KRelease, api.KPack, api.KShow, 0}, fast},
		bent{[]int{api.KHold, api.KHold, api.KHold, api.KHold, api.KHold, api.KHold, api.KCommit, api.KRelease, api.KPack}, slow},
		bent{[]int{api.KPack, api.KPack, api.KPack, api.KHold, api.KCommit}, slow},
	)
}

// request is a tenant's next one: mostly one that may be, and new.
func (d *dice) request(a api.Account, last int, kinds []int) api.Request {
	r := api.Request{Kind: pick(d, kinds...)}
	if r.Kind == 0 {
		r.Kind = pick(d, -1, 0, 6, api.KPlan, api.KTerms, api.KHold)
	}
	r.Id = last + 1 + d.roll(3)
	if d.roll(6) == 0 { // one that was there, or is between such, or is none
		r.Id = pick(d, 0, -1, 1, 2, last, last-1, last-2, last-5, last-9, last-14, mostID+1)
	}
	r.N = pick(d, 1, 2, 3, 5, 9, 20, 50, 200, 0, -1, api.MaxUnits, api.MaxUnits+1)
	r.TTL = pick(d, 1, 2, 5, 10, 30, 500, 3000, api.MaxTTL, 0, api.MaxTTL+1)
	r.Of = d.roll(last + 2)
	if len(a.Holds) > 0 && d.roll(4) > 0 {
		h := a.Holds[d.roll(len(a.Holds))]
		r.Of = h.Id
		if r.Kind == api.KCommit {
			r.N = pick(d, 0, total(h), total(h)/2, total(h)-h.Over, max(total(h)-1, 0), total(h)+1, r.N)
		}
	}
	return r
}

// plan is another one. While a hold has units over the mode stays, so that in hard mode none has.
func (d *dice) plan(a api.Account, mode int) api.Plan {
	for _, h := range a.Holds {
		if h.Over > 0 {
			mode = a.Plan.Mode
		}
	}
	if d.roll(2) == 0 {
		return byDays(1+d.roll(40), 3*d.roll(60), mode)
	}
	return byMonths(1+d.roll(31), 5*d.roll(60), mode)
}

// live is a whole life, as the dice say; it tells the account at its end.
func live(t *testing.T, d dice, modes ...int) api.Account {
	t.Helper()
	now := d.roll(40) * day
	a := begun(t, byDays(1+d.roll(6), pick(&d, 0, 1, 10, 100, 250), pick(&d, modes...)), now)
	isChecked(t, "P1306", a, api.OK)
	return liveOn(t, d, a, 0, now, modes...)
}

// liveOn lives on from an account to whose requests last is the last number, holding each step against the plain reading.
func liveOn(t *testing.T, d dice, a api.Account, last, now int, modes ...int) api.Account {
	t.Helper()
	b := d.bent()
	for len(d) > 0 {
		now += pick(&d, b.steps...)
		if d.roll(20) == 0 {
			p := d.plan(a, pick(&d, modes...))
			want, e := changed(a, p, now)
			if e != api.OK {
				isNotChanged(t, a, p, now, e)
				continue
			}
			a = isChanged(t, a, p, now, want)
			continue
		}
		isSwept(t, a, now, swept(a, now))
		r := d.request(a, last, b.kinds)
		was := a
		var put bool
		a, _, put = isDone(t, a, r, now)
		if put {
			last = max(last, r.Id)
		}
		if was.Plan.Mode == api.MHard && a.Over != was.Over {
			t.Fatalf("P1306: in hard mode Over became %d, from %d, by %+v", a.Over, was.Over, r)
		}
	}
	return a
}

// account is one that Check allows, of any sort, and the last number of its requests. Each hold's number is known or stale, and in hard mode none has units over.
func (d *dice) account(now int) (api.Account, int) {
	a := api.Account{Name: "a", Key: "k", Plan: d.plan(api.Account{}, pick(d, api.MHard, api.MOver)), Term: 1 + d.roll(9), Next: 1, Over: d.roll(50)}
	a.From = max(now/day-d.roll(20), 0)
	a.To = a.From + 1 + d.roll(40)
	for range d.roll(api.MaxLots + 3) {
		x := api.Lot{Id: a.Next + d.roll(3), Kind: d.roll(3), From: max(now-d.roll(100)+d.roll(40), 0), Granted: d.roll(90)}
		x.Until = x.From + pick(d, 1, 20, 60, 100, 200, 3000)
		if d.roll(3) == 0 {
			x.From, x.Until = a.From*day, a.To*day
		}
		x.Consumed = d.roll(1 + rest(x)/3)
		x.Expired = d.roll(1 + rest(x)/4)
		x.Rolled = d.roll(1 + rest(x)/4)
		a.Lots, a.Next = append(a.Lots, x), x.Id+1
	}
	last := d.roll(30)
	ids := []int{}
	for range d.roll(api.IdemWindow + 1) {
		last += 1 + d.roll(3)
		a.Window = append(a.Window, api.Entry{Id: last, Answer: pick(d, no(api.ErrQuota), ok(d.roll(90), d.roll(9), d.roll(9)))})
		ids = append(ids, last)
	}
	if len(ids) == api.IdemWindow && ids[0] > 2 {
		ids = append([]int{1, ids[0] - 1}, ids...)
	}
	for _, id := range ids {
		if d.roll(2) == 0 && len(a.Holds) < api.MaxHolds {
			a.Holds = append(a.Holds, d.hold(&a, id, now))
		}
	}
	return a, last
}

// hold is one of any of the lots, whose Held is more then.
func (d *dice) hold(a *api.Account, id, now int) api.Hold {
	h := api.Hold{Id: id, Until: max(now-5+d.roll(60), 0)}
	if a.Plan.Mode == api.MOver {
		h.Over = d.roll(9)
	}
	if len(a.Lots) == 0 {
		return h
	}
	first := d.roll(len(a.Lots))
	for i := range d.roll(len(a.Lots) + 1) {
		if x := &a.Lots[(first+i)%len(a.Lots)]; rest(*x) > 0 {
			n := 1 + d.roll(rest(*x))
			x.Held += n
			h.Parts = append(h.Parts, api.Part{Lot: x.Id, N: n})
		}
	}
	return h
}

// TestP1306Any: lives that begin in the midst, with whatever Check allows.
func TestP1306Any(t *testing.T) {
	for seed := range 600 {
		d := thrown(350, uint64(seed)*104729+3)
		now := 20*day + d.roll(200)
		a, last := d.account(now)
		isChecked(t, "P1302", a, api.OK)
		liveOn(t, d, a, last, now, api.MHard, api.MOver)
	}
}

// TestP1306Lives: whole lives of accounts, in both modes and from one to the other; each account on the way is allowed, each request that comes again is answered alike.
func TestP1306Lives(t *testing.T) {
	for seed := range 300 {
		d := thrown(400, uint64(seed)*977+1)
		live(t, d, api.MHard, api.MOver)
		live(t, d, api.MOver)
	}
}

// TestP1306Hard: where the mode is hard all along nothing is ever over, nor has any hold of it.
func TestP1306Hard(t *testing.T) {
	for seed := range 300 {
		a := live(t, thrown(500, uint64(seed)*7919+5), api.MHard)
		if a.Over != 0 {
			t.Fatalf("P1306: %d are over", a.Over)
		}
		for _, h := range a.Holds {
			if h.Over != 0 {
				t.Fatalf("P1306: hold %+v", h)
			}
		}
	}
}

// TestP1306Quota: at each step of a life, holds of each size: refused by ErrQuota just where fewer units are left (T4).
func TestP1306Quota(t *testing.T) {
	for seed := range 60 {
		d := thrown(200, uint64(seed)*31+7)
		a := begun(t, byDays(3, 40, api.MHard), 0)
		now, id := 0, 1
		for len(d) > 0 && len(a.Lots) < api.MaxLots {
			now += pick(&d, 0, 1, 5, 50)
			b := swept(a, now)
			if len(b.Holds) < api.MaxHolds {
				has := left(b, now)
				for n := max(1, has-2); n < has+3; n++ {
					_, x, put := account.Do(a, hold(id, n, 10), now)
					if refused := x.Err == api.ErrQuota; !put || refused != (n > has) || !refused && x != ok(has-n, 0, n) {
						t.Fatalf("T4: %d of %d: %+v, %t", n, has, x, put)
					}
				}
			}
			a, _, _ = isDone(t, a, pick(&d, pack(id, 3, 60), hold(id, 4, 30), hold(id, 9, 100)), now)
			id++
		}
	}
}

// TestP1306Resend: all requests of a life come again, in this order and that: those that are known are answered as they were, those below are stale, and nothing is done.
func TestP1306Resend(t *testing.T) {
	a := begun(t, byDays(30, 100, api.MHard), 0)
	type was struct {
		r api.Request
		x api.Answer
	}
	var sent []was
	for i := 1; i <= 40; i++ {
		r := []api.Request{hold(i, i, 50), hold(i, 500, 50), commit(i, i-2, 1), release(i, i-3), pack(i, 2, 9)}[i%5]
		var x api.Answer
		a, x, _ = isDone(t, a, r, 10*i)
		sent = append(sent, was{r, x})
		for k := range sent {
			s := sent[k*7%len(sent)]
			want := s.x
			if s.r.Id <= i-api.IdemWindow {
				want = no(api.ErrStale)
			}
			b, y, put := isDone(t, a, s.r, 10*i+k)
			if y != want || put {
				t.Fatalf("T5: %+v again: %+v, %t, not %+v", s.r, y, put, want)
			}
			isKept(t, a, b)
		}
	}
}

// FuzzLives looks for lives, whole ones and such as begin in the midst, that P1303 to P1306 do not hold for.
func FuzzLives(f *testing.F) {
	f.Add([]byte{}, uint8(0))
	f.Add([]byte(thrown(100, 3)), uint8(0))
	f.Add([]byte(thrown(300, 4)), uint8(1))
	f.Add([]byte(thrown(300, 5)), uint8(2))
	f.Fuzz(func(t *testing.T, b []byte, how uint8) {
		d := dice(b[:min(len(b), 2000)])
		switch how % 3 {
		case 0:
			live(t, d, api.MHard)
		case 1:
			live(t, d, api.MHard, api.MOver)
		case 2:
			now := 20*day + d.roll(200)
			a, last := d.account(now)
			liveOn(t, d, a, last, now, api.MHard, api.MOver)
		}
	})
}
