package account_test

import (
	"math"
	"testing"

	"toll/api"
)

// TestP1303Due: one tick ahead of a hold's time nothing is done; at it and behind it the hold is open no more, and its lots have its units again.
func TestP1303Due(t *testing.T) {
	a := api.Account{
		Name: "a", Key: "k", Plan: byDays(30, 50, api.MHard), Term: 1, To: 30, Next: 3, Over: 4,
		Lots:   []api.Lot{{Id: 1, Until: 30 * day, Granted: 50, Consumed: 2, Held: 9}, {Id: 2, Kind: api.LPack, Until: 30 * day, Granted: 6, Held: 5}},
		Holds:  []api.Hold{{Id: 7, Parts: []api.Part{{Lot: 2, N: 5}, {Lot: 1, N: 9}}, Over: 3, Until: 1000}},
		Window: []api.Entry{{Id: 7, Answer: ok(1, 2, 3)}},
	}
	want := clone(a)
	want.Lots[0].Held, want.Lots[1].Held, want.Holds = 0, 0, nil
	for _, now := range []int{0, 1, 998, 999} {
		isSwept(t, a, now, a)
	}
	for _, now := range []int{1000, 1001, 30*day - 1} {
		isSwept(t, a, now, want)
	}
	a.Holds[0].Until = 0
	isSwept(t, a, 0, want)
	a.Holds[0].Until = mostID
	isSwept(t, a, api.LastTick, a)
}

// TestP1303Each: holds that are due one behind the other, not in the order of their Ids.
func TestP1303Each(t *testing.T) {
	a := rich()
	for now, open := range map[int][]int{118*day - 1: {0, 1, 2}, 118 * day: {0, 1}, 120*day - 1: {0, 1}, 120 * day: {1}, 121*day - 1: {1}, 121 * day: {}, api.LastTick: {}} {
		want := swept(a, now)
		if len(want.Holds) != len(open) {
			t.Fatalf("P1303: %d are open at %d", len(want.Holds), now)
		}
		for i, at := range open {
			if want.Holds[i].Id != a.Holds[at].Id {
				t.Fatalf("P1303: %+v", want.Holds)
			}
		}
		isSwept(t, a, now, want)
	}
	b := swept(a, 120*day)
	for i, want := range []api.Lot{{Held: 5, Expired: 5}, {Held: 0}, {Held: 4}, {Expired: 2}} {
		if x := b.Lots[i]; x.Held != want.Held || x.Expired != want.Expired {
			t.Fatalf("P1303: %+v", x)
		}
	}
	isSwept(t, a, 120*day, b)
	isSwept(t, b, 118*day, b)
}

// TestP1303Over: of a lot that is over what a hold had expires, of the others it remains; nothing is over of the account's.
func TestP1303Over(t *testing.T) {
	a := rich()
	want := clone(a)
	want.Holds = nil
	for i, x := range []struct{ held, expired int }{{0, 5}, {0, 0}, {0, 4}, {0, 2}} {
		want.Lots[i].Held, want.Lots[i].Expired = x.held, x.expired
	}
	isSwept(t, a, 121*day, want) // lot 6 is over from 119 days on
	isSwept(t, a, 130*day-1, want)
	for i, expired := range []int{40, 10, 4, 2} {
		want.Lots[i].Expired = expired
	}
	isSwept(t, a, 130*day, want)
	isSwept(t, a, 200*day, want)
}

// TestP1303None: an account without holds stays as it is, whatever tick it is.
func TestP1303None(t *testing.T) {
	a := rich()
	a.Lots, a.Holds = a.Lots[3:], nil
	for _, now := range []int{0, 1, 150 * day, api.LastTick} {
		isSwept(t, a, now, a)
	}
}

// TestP1303Full: as many holds as there may be, each of each of as many lots.
func TestP1303Full(t *testing.T) {
	a := rich()
	a.Lots, a.Holds, a.Next = nil, nil, 100
	for i := range api.MaxLots + 2 {
		a.Lots = append(a.Lots, api.Lot{Id: i + 1, Until: 50 + 10*i, Granted: 1000})
	}
	for k := range api.MaxHolds {
		h := api.Hold{Id: 10 + k, Until: 40 + 7*k*5%60}
		for i := range a.Lots {
			h.Parts = append(h.Parts, api.Part{Lot: i + 1, N: k + i + 1})
			a.Lots[i].Held += k + i + 1
		}
		a.Holds = append(a.Holds, h)
	}
	isChecked(t, "P1302", a, api.OK)
	for now := 30; now < 220; now++ {
		isSwept(t, a, now, swept(a, now))
	}
	isSwept(t, a, math.MaxInt32, swept(a, math.MaxInt32))
}
