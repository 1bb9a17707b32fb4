package account

import (
	"slices"

	"toll/api"
	"toll/lots"
	"toll/plan"
)

func Check(a api.Account) api.Errno {
	if !isSound(a) {
		return api.ErrArg
	}
	if e := plan.Check(a.Plan); e != api.OK {
		return e
	}
	if e := lots.Check(a.Lots); e != api.OK {
		return e
	}
	if !areAhead(a.Lots, a.Next) || !areHeld(a.Lots, a.Holds) || !areKnown(a.Window) {
		return api.ErrBad
	}
	return api.OK
}

// isSound holds of an account's own texts and numbers.
func isSound(a api.Account) bool {
	return plan.Name(a.Name) && plan.Name(a.Key) &&
		within(a.Term, 1, mostID) &&
		a.From >= 0 && a.To > a.From && a.To <= lastDay &&
		within(a.Next, 1, mostID) &&
		within(a.Over, 0, mostTold)
}

// areAhead holds of lots none of which has an Id that is still to be given.
func areAhead(l []api.Lot, next int) bool {
	return !slices.ContainsFunc(l, func(x api.Lot) bool { return x.Id >= next })
}

// areHeld holds of holds that have, all together, just what the lots say is held.
func areHeld(l []api.Lot, holds []api.Hold) bool {
	if len(holds) > api.MaxHolds {
		return false
	}
	held := make([]int, len(l)) // less what was found in parts
	for i, x := range l {
		held[i] = x.Held
	}
	ahead := 0
	for _, h := range holds {
		if !isHold(h, ahead) || !takeParts(l, held, h.Parts) {
			return false
		}
		ahead = h.Id
	}
	return !slices.ContainsFunc(held, func(n int) bool { return n != 0 })
}

func isHold(h api.Hold, ahead int) bool {
	return h.Id > ahead && h.Id <= mostID &&
		within(h.Until, 0, mostID) &&
		within(h.Over, 0, api.MaxUnits) &&
		len(h.Parts) <= mostParts
}

// takeParts takes a hold's parts from what is held of their lots, and holds if each has its own lot, and that has so many. (A sum of parts could wrap round; what is left of held cannot.)
func takeParts(l []api.Lot, held []int, parts []api.Part) bool {
	for k, p := range parts {
		i := slices.IndexFunc(l, func(x api.Lot) bool { return x.Id == p.Lot })
		if i < 0 || !within(p.N, 1, held[i]) || slices.ContainsFunc(parts[:k], func(q api.Part) bool { return q.Lot == p.Lot }) {
			return false
		}
		held[i] -= p.N
	}
	return true
}

func areKnown(w []api.Entry) bool {
	if len(w) > api.IdemWindow {
		return false
	}
	ahead := 0
	for _, x := range w {
		if x.Id <= ahead || x.Id > mostID || !isAnswer(x.Answer) {
			return false
		}
		ahead = x.Id
	}
	return true
}

func isAnswer(a api.Answer) bool {
	return api.OK <= a.Err && a.Err <= api.ErrQuota &&
		within(a.Left, 0, mostTold) &&
		within(a.Over, 0, mostTold) &&
		within(a.N, 0, mostTold) &&
		a.Statement == api.Statement{}
}
