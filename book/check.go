package book

import (
	"slices"

	"toll/account"
	"toll/api"
	"toll/plan"
)

const (
	mostTerm = 1 << 40
	mostTold = 1 << 53 // in a statement
)

func within(n, least, most int) bool { return least <= n && n <= most }

func checkCursor(c Cursor) api.Errno {
	if c.Name != "" && !plan.Name(c.Name) || !within(c.Time, 0, api.LastTick) {
		return api.ErrArg
	}
	return api.OK
}

func checkStatement(s api.Statement) api.Errno {
	told := [...]int{s.From, s.To, s.Granted, s.Consumed, s.Expired, s.Rolled, s.Over}
	isOut := func(n int) bool { return !within(n, 0, mostTold) }
	if !plan.Name(s.Name) || !within(s.Term, 1, mostTerm) || slices.ContainsFunc(told[:], isOut) {
		return api.ErrArg
	}
	return api.OK
}

func (t *tx) checkClose(a api.Account, s api.Statement, c Cursor) api.Errno {
	if e := checkStatement(s); e != api.OK {
		return e
	}
	if e := checkCursor(c); e != api.OK {
		return e
	}
	if e := account.Check(a); e != api.OK {
		return e
	}
	if _, is := t.statement(s.Name, s.Term); is {
		return api.ErrIs
	}
	return api.OK
}

// checkNext allows the next version of a plan, no other.
func (t *tx) checkNext(p api.Plan) api.Errno {
	if e := plan.Check(p); e != api.OK {
		return e
	}
	last := t.last(p.Name)
	switch {
	case p.Version <= last:
		return api.ErrIs
	case p.Version != last+1:
		return api.ErrArg
	case last == 0 && t.plans() >= api.MaxPlans:
		return api.ErrMany
	}
	return api.OK
}
