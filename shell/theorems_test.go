package shell_test

import (
	"fmt"
	"testing"

	"toll/api"
)

// faults keeps the first one: the rig tells it.
func (p *plain) faults(what string, of ...any) {
	if p.fault == "" {
		p.fault = fmt.Sprintf(what, of...)
	}
}

// holdsOnce holds a tenant's answer to T5: what was recorded once is answered alike for good, or as too old.
func (p *plain) holdsOnce(name string, q api.Request, x api.Answer, put bool) {
	first, is := p.first[idAt{name, q.Id}]
	switch {
	case q.Kind == api.KShow || !is:
	case put:
		p.faults("T5: %s: %+v is done a second time", name, q)
	case x != first && x != no(api.ErrStale):
		p.faults("T5: %s: %+v: %+v, but first %+v", name, q, x, first)
	}
}

// holdsQuota holds the answer to a hold that is new to T4.
func (p *plain) holdsQuota(a api.Account, q api.Request, x api.Answer, put bool) {
	open := 0
	for _, h := range a.Holds {
		if h.Until > p.now {
			open++
		}
	}
	if q.Kind != api.KHold || !put || q.N < 1 || q.N > api.MaxUnits || q.TTL < 1 || q.TTL > api.MaxTTL || open >= api.MaxHolds {
		return
	}
	left := leftOf(a, p.now)
	if (x.Err == api.ErrQuota) != (left < q.N && a.Plan.Mode == api.MHard) {
		p.faults("T4: %s: %+v: %+v, with %d left in mode %d", a.Name, q, x, left, a.Plan.Mode)
	}
}

// leftOf is how many units an account's valid lots have left at a tick, its holds that are due being released.
func leftOf(a api.Account, now int) int {
	n := 0
	valid := map[int]bool{}
	for _, l := range a.Lots {
		if l.From <= now && now < l.Until {
			valid[l.Id] = true
			n += l.Granted - l.Consumed - l.Held - l.Expired - l.Rolled
		}
	}
	for _, h := range a.Holds {
		for _, part := range h.Parts {
			if h.Until <= now && valid[part.Lot] {
				n += part.N
			}
		}
	}
	return n
}

// addsUp holds an account's lots to T3.
func addsUp(t testing.TB, a api.Account) {
	t.Helper()
	held := map[int]int{}
	for _, h := range a.Holds {
		for _, part := range h.Parts {
			held[part.Lot] += part.N
		}
	}
	for _, l := range a.Lots {
		rest := l.Granted - l.Consumed - l.Held - l.Expired - l.Rolled
		if min(l.Granted, l.Consumed, l.Held, l.Expired, l.Rolled, rest) < 0 || held[l.Id] != l.Held {
			t.Fatalf("T3: %s: a lot %+v, of which holds have %d", a.Name, l, held[l.Id])
		}
	}
}

// closedOnce holds a tenant's statements to T3 and T6: of each term ahead of this one there is one, each begins where the one ahead ended, and all that was committed is in them or in the account.
func closedOnce(t testing.TB, a api.Account, s state) {
	t.Helper()
	n, many, from := a.Over, 0, -1
	for _, l := range a.Lots {
		n += l.Consumed
	}
	for at := range s.told {
		if at.name == a.Name {
			many++
		}
	}
	for term := 1; term < a.Term; term++ {
		x, is := s.told[termAt{a.Name, term}]
		if !is || from >= 0 && x.From != from || x.Granted != x.Consumed+x.Expired+x.Rolled || min(x.Consumed, x.Expired, x.Rolled, x.Over) < 0 {
			t.Fatalf("T6: the statement of %s, %d: %+v, %t; the one ahead ended at %d", a.Name, term, x, is, from)
		}
		n, from = n+x.Consumed+x.Over, x.To
	}
	if many != a.Term-1 || from >= 0 && a.From != from {
		t.Fatalf("T6: %s is in term %d, which begins at %d; there are %d statements, the last one ended at %d", a.Name, a.Term, a.From, many, from)
	}
	if n != s.used[a.Name] {
		t.Fatalf("T3: %s has consumed %d, and committed %d", a.Name, n, s.used[a.Name])
	}
}

// isThrottled holds the ticks of requests that passed to T7: of any two ticks at most the burst and the rate for each tick lie between, the later one's too.
func isThrottled(t testing.TB, passed []int, burst, rate int) {
	t.Helper()
	for i, from := range passed {
		for k, to := range passed[i:] { // they lie behind the tick ahead of from
			if k+1 > burst+rate*(to-from+1) {
				t.Fatalf("T7: %d passed behind %d, up to %d, of burst %d and rate %d", k+1, from-1, to, burst, rate)
			}
		}
	}
}
