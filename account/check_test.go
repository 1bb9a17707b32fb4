package account_test

import (
	"fmt"
	"math"
	"strings"
	"testing"

	"toll/api"
)

// far are numbers that nothing of an account may be; some of them would do, were they cut to fewer bits.
var far = []int{-1, -1 << 31, -1 << 32, -1 << 40, -1 << 53, -1 << 62, 1<<53 + 1, 1<<54 + 1, 1<<60 + 1, 1 << 62, 1<<62 + 5, math.MaxInt - 1, math.MaxInt, math.MinInt, math.MinInt + 1, math.MinInt + 5}

// spoiled is a, with one thing another.
func spoiled(f func(a *api.Account)) api.Account {
	a := rich()
	f(&a)
	return a
}

func isBad(t *testing.T, what string, f func(a *api.Account)) {
	t.Helper()
	isChecked(t, "P1302: "+what, spoiled(f), api.ErrBad)
}

func isFine(t *testing.T, what string, f func(a *api.Account)) {
	t.Helper()
	isChecked(t, "P1302: "+what, spoiled(f), api.OK)
}

func TestP1302Fine(t *testing.T) {
	isChecked(t, "P1302", rich(), api.OK)
	isFine(t, "no lots, no holds", func(a *api.Account) { a.Lots, a.Holds = nil, nil })
	isFine(t, "no lots, no holds, Next 1", func(a *api.Account) { a.Lots, a.Holds, a.Next = nil, nil, 1 })
	isFine(t, "no window", func(a *api.Account) { a.Window = nil })
	isFine(t, "empty lists", func(a *api.Account) { a.Lots, a.Holds, a.Window = []api.Lot{}, []api.Hold{}, []api.Entry{} })
	isFine(t, "a hold without parts", func(a *api.Account) { a.Holds[2].Parts = []api.Part{} })
	isFine(t, "a hold without anything", func(a *api.Account) { a.Holds[2] = api.Hold{Id: 50} })
	isFine(t, "lots that lie outside the term", func(a *api.Account) { a.From, a.To = 0, 1 })
	isFine(t, "holds that are not known", func(a *api.Account) { a.Window = a.Window[:1] })
	isFine(t, "over in hard mode", func(a *api.Account) { a.Plan.Mode = api.MHard })
	isChecked(t, "P1302: none", api.Account{}, api.ErrArg)
}

func TestP1302Names(t *testing.T) {
	for _, s := range []string{"a", "-", "09-az", strings.Repeat("x", 24)} {
		isFine(t, s, func(a *api.Account) { a.Name = s })
		isFine(t, s, func(a *api.Account) { a.Key = s })
	}
	for _, s := range []string{"", "A", "a b", "_", "é", "\x00", strings.Repeat("x", 25)} {
		isChecked(t, "P1302: a name", spoiled(func(a *api.Account) { a.Name = s }), api.ErrArg)
		isChecked(t, "P1302: a key", spoiled(func(a *api.Account) { a.Key = s }), api.ErrArg)
	}
}

// TestP1302Bounds: each number, while all others stay, at its bounds, one beyond, and far away.
func TestP1302Bounds(t *testing.T) {
	for _, x := range []struct {
		name        string
		at          func(a *api.Account) *int
		least, most int
		want        api.Errno
	}{
		{"Term", func(a *api.Account) *int { return &a.Term }, 1, mostID, api.ErrArg},
		{"From", func(a *api.Account) *int { return &a.From }, 0, 129, api.ErrArg},
		{"To", func(a *api.Account) *int { return &a.To }, 101, 4000000, api.ErrArg},
		{"Over", func(a *api.Account) *int { return &a.Over }, 0, 1 << 53, api.ErrArg},
		{"Plan.Version", func(a *api.Account) *int { return &a.Plan.Version }, 1, 1000000, api.ErrArg},
		{"Plan.Allowance", func(a *api.Account) *int { return &a.Plan.Allowance }, 0, api.MaxUnits, api.ErrArg},
		{"Plan.Days", func(a *api.Account) *int { return &a.Plan.Days }, 1, api.MaxDays, api.ErrArg},
		{"Plan.Anchor", func(a *api.Account) *int { return &a.Plan.Anchor }, 0, 0, api.ErrArg},
		{"Plan.Kind", func(a *api.Account) *int { return &a.Plan.Kind }, api.TDays, api.TDays, api.ErrArg},
		{"Plan.Cap", func(a *api.Account) *int { return &a.Plan.Cap }, 0, api.MaxUnits, api.ErrArg},
		{"Plan.Mode", func(a *api.Account) *int { return &a.Plan.Mode }, api.MHard, api.MOver, api.ErrArg},
		{"Plan.Burst", func(a *api.Account) *int { return &a.Plan.Burst }, 1, api.MaxBurst, api.ErrArg},
		{"Plan.Rate", func(a *api.Account) *int { return &a.Plan.Rate }, 0, api.MaxRate, api.ErrArg},
		{"Lot.Kind", func(a *api.Account) *int { return &a.Lots[3].Kind }, 0, 2, api.ErrKind},
		{"Lot.From", func(a *api.Account) *int { return &a.Lots[3].From }, 0, 150*day - 1, api.ErrArg},
		{"Lot.Until", func(a *api.Account) *int { return &a.Lots[3].Until }, 90*day + 1, mostID, api.ErrArg},
		{"Lot.Granted", func(a *api.Account) *int { return &a.Lots[3].Granted }, 13, mostID, api.ErrBad},
		{"Lot.Consumed", func(a *api.Account) *int { return &a.Lots[3].Consumed }, 0, 25, api.ErrBad},
		{"Lot.Expired", func(a *api.Account) *int { return &a.Lots[3].Expired }, 0, 19, api.ErrBad},
		{"Lot.Rolled", func(a *api.Account) *int { return &a.Lots[3].Rolled }, 0, 20, api.ErrBad},
		{"Lot.Held", func(a *api.Account) *int { return &a.Lots[0].Held }, 35, 35, api.ErrBad},
		{"the first Hold.Id", func(a *api.Account) *int { return &a.Holds[0].Id }, 1, 43, api.ErrBad},
		{"a Hold.Id", func(a *api.Account) *int { return &a.Holds[1].Id }, 41, 49, api.ErrBad},
		{"the last Hold.Id", func(a *api.Account) *int { return &a.Holds[2].Id }, 45, mostID, api.ErrBad},
		{"the first Hold.Until", func(a *api.Account) *int { return &a.Holds[0].Until }, 0, mostID, api.ErrBad},
		{"the last Hold.Until", func(a *api.Account) *int { return &a.Holds[2].Until }, 0, mostID, api.ErrBad},
		{"the first Hold.Over", func(a *api.Account) *int { return &a.Holds[0].Over }, 0, api.MaxUnits, api.ErrBad},
		{"the last Hold.Over", func(a *api.Account) *int { return &a.Holds[2].Over }, 0, api.MaxUnits, api.ErrBad},
		{"the first Part.N", func(a *api.Account) *int { return &a.Holds[0].Parts[0].N }, 10, 10, api.ErrBad},
		{"the last Part.N", func(a *api.Account) *int { return &a.Holds[1].Parts[1].N }, 5, 5, api.ErrBad},
		{"the first Part.Lot", func(a *api.Account) *int { return &a.Holds[0].Parts[0].Lot }, 3, 3, api.ErrBad},
		{"the last Part.Lot", func(a *api.Account) *int { return &a.Holds[1].Parts[1].Lot }, 2, 2, api.ErrBad},
		{"the first Entry.Id", func(a *api.Account) *int { return &a.Window[0].Id }, 1, 39, api.ErrBad},
		{"an Entry.Id", func(a *api.Account) *int { return &a.Window[3].Id }, 45, 59, api.ErrBad},
		{"the last Entry.Id", func(a *api.Account) *int { return &a.Window[4].Id }, 51, mostID, api.ErrBad},
		{"the first Answer.Left", func(a *api.Account) *int { return &a.Window[0].Answer.Left }, 0, 1 << 53, api.ErrBad},
		{"an Answer.Over", func(a *api.Account) *int { return &a.Window[2].Answer.Over }, 0, 1 << 53, api.ErrBad},
		{"the last Answer.N", func(a *api.Account) *int { return &a.Window[4].Answer.N }, 0, 1 << 53, api.ErrBad},
	} {
		for _, n := range []int{x.least, min(x.least+1, x.most), x.most} {
			isFine(t, x.name, func(a *api.Account) { *x.at(a) = n })
		}
		for _, n := range append([]int{x.least - 1, x.most + 1}, far...) {
			isChecked(t, fmt.Sprintf("P1302: %s %d", x.name, n), spoiled(func(a *api.Account) { *x.at(a) = n }), x.want)
		}
	}
}

// TestP1302Next: below 1 and above 2^40 it may not be at all; else it must be behind all lots.
func TestP1302Next(t *testing.T) {
	for next, want := range map[int]api.Errno{
		math.MinInt: api.ErrArg, -1: api.ErrArg, 0: api.ErrArg, 1: api.ErrBad, 2: api.ErrBad, 6: api.ErrBad, 9: api.ErrBad, 10: api.OK, 11: api.OK,
		mostID - 1: api.OK, mostID: api.OK, mostID + 1: api.ErrArg, 1 << 53: api.ErrArg, math.MaxInt: api.ErrArg,
	} {
		isChecked(t, "P1302: Next", spoiled(func(a *api.Account) { a.Next = next }), want)
	}
	for id, want := range map[int]api.Errno{6: api.ErrArg, 7: api.OK, 11: api.OK, 12: api.ErrBad, 13: api.ErrBad, mostID: api.ErrBad, mostID + 1: api.ErrArg} {
		isChecked(t, "P1302: a lot's Id", spoiled(func(a *api.Account) { a.Lots[3].Id = id }), want)
	}
	isFine(t, "the greatest Ids", func(a *api.Account) { a.Lots[3].Id, a.Next = mostID-1, mostID })
	isBad(t, "a lot whose Id is Next, the greatest", func(a *api.Account) { a.Lots[3].Id, a.Next = mostID, mostID })
}

// manyLots are so many lots, and one part of each.
func manyLots(n int) ([]api.Lot, []api.Part) {
	var l []api.Lot
	var p []api.Part
	for i := range n {
		l = append(l, api.Lot{Id: i + 1, Until: 9, Granted: 10, Held: i%3 + 1})
		p = append(p, api.Part{Lot: i + 1, N: i%3 + 1})
	}
	return l, p
}

func TestP1302Many(t *testing.T) {
	for n := range 18 {
		want := api.OK
		if n > api.MaxLots+2 {
			want = api.ErrMany
		}
		isChecked(t, "P1302: lots and parts", spoiled(func(a *api.Account) {
			l, p := manyLots(n)
			a.Lots, a.Holds, a.Next = l, []api.Hold{{Id: 1, Parts: p}}, 20
		}), want)
		want = api.OK
		if n > api.MaxHolds {
			want = api.ErrBad
		}
		isChecked(t, "P1302: holds", spoiled(func(a *api.Account) {
			a.Holds, a.Lots = nil, a.Lots[3:]
			for i := range n {
				a.Holds = append(a.Holds, api.Hold{Id: i + 1})
			}
		}), want)
		isChecked(t, "P1302: entries", spoiled(func(a *api.Account) {
			a.Window = nil
			for i := range n {
				a.Window = append(a.Window, api.Entry{Id: i + 1})
			}
		}), want)
	}
}

// TestP1302Parts: of lots that are not there, of one lot twice, of nothing, of less than nothing.
func TestP1302Parts(t *testing.T) {
	for _, id := range []int{0, 1, 4, 5, 7, 8, 10, 12, -2} {
		isBad(t, "a part of no lot", func(a *api.Account) { a.Holds[2].Parts = []api.Part{{Lot: id, N: 1}} })
	}
	isBad(t, "a part of a lot that has nothing held", func(a *api.Account) { a.Holds[2].Parts = []api.Part{{Lot: 9, N: 1}} })
	isFine(t, "a part of such a lot, held", func(a *api.Account) {
		a.Holds[2].Parts = []api.Part{{Lot: 9, N: 1}}
		a.Lots[3].Held = 1
	})
	isBad(t, "a part of 0", func(a *api.Account) { a.Holds[2].Parts = []api.Part{{Lot: 9, N: 0}} })
	isBad(t, "two parts of a lot in one hold", func(a *api.Account) {
		a.Holds[0].Parts = []api.Part{{Lot: 2, N: 20}, {Lot: 3, N: 10}, {Lot: 2, N: 10}}
	})
	isBad(t, "two parts of a lot, one behind the other", func(a *api.Account) {
		a.Holds[0].Parts = []api.Part{{Lot: 3, N: 10}, {Lot: 2, N: 20}, {Lot: 2, N: 10}}
	})
	isFine(t, "a part of a lot in each hold", func(a *api.Account) {
		a.Holds[0].Parts[1].N = 29
		a.Holds[2].Parts = []api.Part{{Lot: 2, N: 1}}
	})
	isBad(t, "a part below 0, made up for in another hold", func(a *api.Account) {
		a.Holds[0].Parts[1].N = 31
		a.Holds[2].Parts = []api.Part{{Lot: 2, N: -1}}
	})
	isBad(t, "a part of 0 of a lot that others hold", func(a *api.Account) { a.Holds[2].Parts = []api.Part{{Lot: 2, N: 0}} })
	isFine(t, "parts in another order", func(a *api.Account) {
		a.Holds[0].Parts = []api.Part{{Lot: 2, N: 30}, {Lot: 3, N: 10}}
	})
	l, p := manyLots(14)
	isBad(t, "15 parts of 14 lots", func(a *api.Account) {
		l[0].Held = 2
		a.Lots, a.Next, a.Holds = l, 20, []api.Hold{{Id: 1, Parts: append(p, api.Part{Lot: 1, N: 1})}}
	})
}

// TestP1302Held: each lot's Held is what its parts come to, no more and no less.
func TestP1302Held(t *testing.T) {
	for i := range 4 {
		isBad(t, "more is held than parts have", func(a *api.Account) { a.Lots[i].Held++ })
		isBad(t, "all is held", func(a *api.Account) { a.Lots[i].Held += rest(a.Lots[i]) })
	}
	for i := range 3 {
		isBad(t, "less is held than parts have", func(a *api.Account) { a.Lots[i].Held-- })
		isBad(t, "nothing is held", func(a *api.Account) { a.Lots[i].Held = 0 })
	}
	isBad(t, "as much in all, of other lots", func(a *api.Account) { a.Lots[0].Held++; a.Lots[1].Held-- })
	isBad(t, "no holds", func(a *api.Account) { a.Holds = nil })
	for i := range 2 {
		isBad(t, "a hold is gone", func(a *api.Account) { a.Holds = append(a.Holds[:i], a.Holds[i+1:]...) })
	}
	isFine(t, "a hold without parts is gone", func(a *api.Account) { a.Holds = a.Holds[:2] })
}

// TestP1302Wrap: parts that come to what is held only where a sum wraps round.
func TestP1302Wrap(t *testing.T) {
	for _, parts := range [][]int{{math.MaxInt, math.MaxInt, 2}, {1 << 62, 1 << 62, 1 << 62, 1 << 62}, {math.MaxInt, math.MaxInt, 2 + 7}, {7, math.MaxInt, 1, math.MaxInt, 1}} {
		a := rich()
		a.Lots, a.Holds = a.Lots[3:], nil
		sum := 0
		for i, n := range parts {
			sum += n
			a.Holds = append(a.Holds, api.Hold{Id: i + 1, Parts: []api.Part{{Lot: 9, N: n}}})
		}
		a.Lots[0].Held = sum // 0 or 7
		isChecked(t, "P1302: parts that wrap round", a, api.ErrBad)
	}
}

func TestP1302Answers(t *testing.T) {
	for at := range 5 {
		for e := -3; e < 40; e++ {
			want := api.OK
			if e < 0 || e > 24 {
				want = api.ErrBad
			}
			isChecked(t, "P1302: an answer's Err", spoiled(func(a *api.Account) { a.Window[at].Answer.Err = api.Errno(e) }), want)
		}
		for _, e := range far {
			isBad(t, "an answer's Err", func(a *api.Account) { a.Window[at].Answer.Err = api.Errno(e) })
			isBad(t, "an answer's Left", func(a *api.Account) { a.Window[at].Answer.Left = e })
			isBad(t, "an answer's Over", func(a *api.Account) { a.Window[at].Answer.Over = e })
			isBad(t, "an answer's N", func(a *api.Account) { a.Window[at].Answer.N = e })
		}
		for _, s := range []api.Statement{{Name: "a"}, {Term: 1}, {From: 1}, {To: 1}, {Granted: 1}, {Consumed: 1}, {Expired: 1}, {Rolled: 1}, {Over: 1}, {Over: -1}, {Name: "a", Term: 1, To: 30, Granted: 9}} {
			isBad(t, "an answer with a statement", func(a *api.Account) { a.Window[at].Answer.Statement = s })
		}
	}
}

// TestP1302TwoErrors: the one that is named first is told. Each fault is of another thing, so that any two can be there at once.
func TestP1302TwoErrors(t *testing.T) {
	faults := []struct {
		name string
		f    func(a *api.Account)
		want api.Errno
	}{
		{"a name", func(a *api.Account) { a.Name = "" }, api.ErrArg},
		{"a key", func(a *api.Account) { a.Key = "K" }, api.ErrArg},
		{"a term", func(a *api.Account) { a.Term = mostID + 1 }, api.ErrArg},
		{"over", func(a *api.Account) { a.Over = -1 }, api.ErrArg},
		{"a plan", func(a *api.Account) { a.Plan.Burst = 0 }, api.ErrArg},
		{"a lot's kind", func(a *api.Account) { a.Lots[0].Kind = 9 }, api.ErrKind},
		{"a lot's time", func(a *api.Account) { a.Lots[1].From = -1 }, api.ErrArg},
		{"a lot's units", func(a *api.Account) { a.Lots[2].Consumed = -1 }, api.ErrBad},
		{"another lot's kind", func(a *api.Account) { a.Lots[3].Kind = -1 }, api.ErrKind},
		{"the next lot's Id", func(a *api.Account) { a.Next = 9 }, api.ErrBad},
		{"a hold's Id", func(a *api.Account) { a.Holds[1].Id = 40 }, api.ErrBad},
		{"a part", func(a *api.Account) { a.Holds[0].Parts[0].N++ }, api.ErrBad},
		{"an entry's Id", func(a *api.Account) { a.Window[1].Id = 1 }, api.ErrBad},
		{"an answer", func(a *api.Account) { a.Window[4].Answer.Err = 25 }, api.ErrBad},
	}
	for i, x := range faults {
		isChecked(t, "P1302: "+x.name, spoiled(x.f), x.want)
		for _, y := range faults[i+1:] {
			isChecked(t, "P6: "+x.name+", "+y.name, spoiled(func(a *api.Account) { x.f(a); y.f(a) }), x.want)
		}
	}
	many := func(a *api.Account) { a.Lots = make([]api.Lot, 15) }
	isChecked(t, "P1302: too many lots", spoiled(many), api.ErrMany)
	for _, y := range faults[:5] {
		isChecked(t, "P6: too many lots, "+y.name, spoiled(func(a *api.Account) { many(a); y.f(a) }), api.ErrArg)
	}
	for _, y := range faults[9:] {
		isChecked(t, "P6: too many lots, "+y.name, spoiled(func(a *api.Account) { y.f(a); many(a) }), api.ErrMany)
	}
}
