package lots_test

import (
	"math"
	"slices"
	"testing"

	"toll/api"
	"toll/lots"
)

const most = 1 << 40

// far are numbers that nothing of a lot may be; some of them would do, were they cut to fewer bits.
var far = []int{-1 << 31, -1 << 32, -1 << 40, -1<<40 - 1, -1 << 62, most + 2, 1 << 41, 1<<41 + 1, 1 << 48, 1<<60 + 1, 1 << 62, 1<<62 + 5, math.MaxInt - 1, math.MaxInt, math.MinInt, math.MinInt + 1, math.MinInt + 5}

// lot is one of units of which nothing was done yet.
func lot(id, from, until, granted int) api.Lot {
	return api.Lot{Id: id, Kind: api.LPack, From: from, Until: until, Granted: granted}
}

// row is lots that may be, as many as asked, each with another thing done to it.
func row(n int) []api.Lot {
	var l []api.Lot
	for i := range n {
		x := lot(3*i+2, i, 40-2*i, 100+i)
		x.Kind, x.Consumed, x.Held, x.Expired, x.Rolled = i%3, i, 2*i, i%2, 3*i
		l = append(l, x)
	}
	return l
}

// rest is worked out by adding up, as T3 has it.
func rest(l api.Lot) int {
	return l.Granted - (l.Consumed + l.Held + l.Expired + l.Rolled)
}

// taken reads P1003 plainly: lot by lot, each time the one whose turn it is is looked for.
func taken(l []api.Lot, n, now int) ([]api.Lot, []api.Part, int) {
	behind, parts := slices.Clone(l), []api.Part(nil)
	for n > 0 {
		turn := -1
		for i, x := range behind {
			if x.From > now || now >= x.Until || rest(x) <= 0 {
				continue
			}
			if turn < 0 || x.Until < behind[turn].Until || x.Until == behind[turn].Until && x.Id < behind[turn].Id {
				turn = i
			}
		}
		if turn < 0 {
			break
		}
		k := min(n, rest(behind[turn]))
		behind[turn].Held += k
		parts = append(parts, api.Part{Lot: behind[turn].Id, N: k})
		n -= k
	}
	return behind, parts, n
}

// used reads P1004 plainly: first units are consumed, of the parts in order, then all that is held still is given back.
func used(l []api.Lot, p []api.Part, n, now int) ([]api.Lot, int) {
	behind, given := slices.Clone(l), slices.Clone(p)
	at := func(id int) *api.Lot {
		return &behind[slices.IndexFunc(behind, func(x api.Lot) bool { return x.Id == id })]
	}
	for i, x := range p {
		k := min(n, x.N)
		at(x.Lot).Held -= k
		at(x.Lot).Consumed += k
		given[i].N -= k
		n -= k
	}
	for _, x := range given {
		at(x.Lot).Held -= x.N
		if now >= at(x.Lot).Until {
			at(x.Lot).Expired += x.N
		}
	}
	return behind, n
}

func isChecked(t *testing.T, l []api.Lot, want api.Errno) {
	t.Helper()
	if e := lots.Check(l); e != want {
		t.Fatalf("P1001: Check(%+v): %v, not %v", l, e, want)
	}
}

func isLeft(t *testing.T, l []api.Lot, now, want int) {
	t.Helper()
	if n := lots.Left(l, now); n != want {
		t.Fatalf("P1002: Left(%+v, %d): %d, not %d", l, now, n, want)
	}
}

// isTaken holds what Take answers, and what must be so of it whatever is answered.
func isTaken(t *testing.T, l []api.Lot, n, now int, want []api.Part, lack int) []api.Lot {
	t.Helper()
	behind, parts, k := lots.Take(l, n, now)
	if !slices.Equal(parts, want) || k != lack {
		t.Fatalf("P1003: Take(%+v, %d, %d): %v, %d, not %v, %d", l, n, now, parts, k, want, lack)
	}
	held := slices.Clone(l)
	for _, x := range want {
		held[slices.IndexFunc(held, func(y api.Lot) bool { return y.Id == x.Lot })].Held += x.N
	}
	if !slices.Equal(behind, held) {
		t.Fatalf("P1003: Take(%+v, %d, %d): %+v, not %+v", l, n, now, behind, held)
	}
	isKept(t, l, behind)
	return behind
}

func isUsed(t *testing.T, l []api.Lot, p []api.Part, n, now int, want []api.Lot, lack int) {
	t.Helper()
	behind, k := lots.Use(l, p, n, now)
	if !slices.Equal(behind, want) || k != lack {
		t.Fatalf("P1004: Use(%+v, %v, %d, %d): %+v, %d, not %+v, %d", l, p, n, now, behind, k, want, lack)
	}
	isKept(t, l, behind)
}

// isKept holds P1005: what Check allowed is allowed still, and no lot was granted another number, or is another one.
func isKept(t *testing.T, was, is []api.Lot) {
	t.Helper()
	if lots.Check(was) == api.OK && lots.Check(is) != api.OK {
		t.Fatalf("P1005: %+v became %+v: %v", was, is, lots.Check(is))
	}
	for i, x := range is {
		y := was[i]
		if x.Granted != y.Granted || x.Id != y.Id || x.Kind != y.Kind || x.From != y.From || x.Until != y.Until || x.Rolled != y.Rolled {
			t.Fatalf("P1005: %+v became %+v", y, x)
		}
	}
}
