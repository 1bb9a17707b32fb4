package account

import (
	"toll/api"
	"toll/hold"
	"toll/lots"
)

// deed is what a kind of request does to an account of which no hold is due: it tells the account behind it, and the N of its answer.
type deed interface {
	do(a api.Account, now int) (api.Account, int, api.Errno)
}

// Each kind has of its request what it needs.
type (
	holding    struct{ id, n, ttl int }
	committing struct{ of, n int }
	releasing  struct{ of int }
	packing    struct{ n, ttl int }
	showing    struct{}
)

// deedOf is none (nil) of a kind that is no tenant's.
func deedOf(r api.Request) deed {
	switch r.Kind {
	case api.KHold:
		return holding{id: r.Id, n: r.N, ttl: r.TTL}
	case api.KCommit:
		return committing{of: r.Of, n: r.N}
	case api.KRelease:
		return releasing{of: r.Of}
	case api.KPack:
		return packing{n: r.N, ttl: r.TTL}
	case api.KShow:
		return showing{}
	}
	return nil
}

func (d holding) do(a api.Account, now int) (api.Account, int, api.Errno) {
	if !mayLast(d.n, d.ttl) {
		return api.Account{}, 0, api.ErrArg
	}
	if len(a.Holds) >= api.MaxHolds {
		return api.Account{}, 0, api.ErrMany
	}
	l, parts, lack := lots.Take(a.Lots, d.n, now)
	if lack > 0 && a.Plan.Mode == api.MHard {
		return api.Account{}, 0, api.ErrQuota
	}
	a.Lots = l
	if elder, is := hold.Find(a.Holds, d.id); is { // its place is taken: its units must not stay held for nobody
		a = ended(a, elder, 0, now)
	}
	a.Holds = hold.Put(a.Holds, api.Hold{Id: d.id, Parts: parts, Over: lack, Until: now + d.ttl})
	return a, d.n - lack, api.OK
}

func (d committing) do(a api.Account, now int) (api.Account, int, api.Errno) {
	h, is := hold.Find(a.Holds, d.of)
	if !is {
		return api.Account{}, 0, api.ErrNone
	}
	if !within(d.n, 0, hold.Total(h)) {
		return api.Account{}, 0, api.ErrArg
	}
	a = ended(a, h, d.n, now)
	if a.Over > mostTold { // an account that Check allows must not become one that it does not
		return api.Account{}, 0, api.ErrArg
	}
	return a, d.n, api.OK
}

func (d releasing) do(a api.Account, now int) (api.Account, int, api.Errno) {
	h, is := hold.Find(a.Holds, d.of)
	if !is {
		return api.Account{}, 0, api.ErrNone
	}
	return ended(a, h, 0, now), hold.Total(h), api.OK
}

func (d packing) do(a api.Account, now int) (api.Account, int, api.Errno) {
	if !mayLast(d.n, d.ttl) {
		return api.Account{}, 0, api.ErrArg
	}
	if isFull(a) {
		return api.Account{}, 0, api.ErrMany
	}
	id := a.Next
	return withLot(a, api.Lot{Kind: api.LPack, From: now, Until: now + d.ttl, Granted: d.n}), id, api.OK
}

func (showing) do(a api.Account, _ int) (api.Account, int, api.Errno) {
	return a, 0, api.OK
}

// mayLast holds of units and of how many ticks they may be asked for.
func mayLast(n, ttl int) bool {
	return within(n, 1, api.MaxUnits) && within(ttl, 1, api.MaxTTL)
}
