package hold_test

import (
	"math"
	"slices"
	"testing"

	"toll/api"
)

func TestP1101Total(t *testing.T) {
	isTotal(t, api.Hold{}, 0)
	isTotal(t, api.Hold{Id: 5, Until: 9}, 0)
	isTotal(t, api.Hold{Id: 5, Until: 9, Over: 7}, 7)
	isTotal(t, api.Hold{Id: 5, Until: 9, Parts: []api.Part{}, Over: 7}, 7)
	isTotal(t, api.Hold{Id: 5, Until: 9, Parts: []api.Part{{Lot: 3, N: 4}}}, 4)
	isTotal(t, api.Hold{Id: 5, Until: 9, Parts: []api.Part{{Lot: 3, N: 4}}, Over: 7}, 11)
	isTotal(t, api.Hold{Id: 5, Until: 9, Parts: []api.Part{{Lot: 3, N: 4}, {Lot: 4, N: 10}}}, 14)
	isTotal(t, api.Hold{Id: 5, Until: 9, Parts: []api.Part{{Lot: 3, N: 4}, {Lot: 4, N: 10}}, Over: 7}, 21)
	isTotal(t, api.Hold{Parts: []api.Part{{Lot: 3, N: 4}, {Lot: 3, N: 4}}, Over: 4}, 12)
	isTotal(t, api.Hold{Parts: []api.Part{{Lot: 1, N: 0}, {Lot: 2, N: 5}, {Lot: 3, N: 0}}}, 5)
}

// TestP1101TotalOfMany: as many parts as lots can be, and more, each place of them counted.
func TestP1101TotalOfMany(t *testing.T) {
	h, want := api.Hold{Over: 1 << 20}, 1<<20
	for i := range 19 {
		h.Parts = append(h.Parts, api.Part{Lot: i + 1, N: 1 << i})
		want += 1 << i
		isTotal(t, h, want)
	}
	h = api.Hold{Over: 1 << 40}
	for i := range 16 {
		h.Parts = append(h.Parts, api.Part{Lot: i + 1, N: 1 << 40})
	}
	isTotal(t, h, 17<<40)
}

func TestP1101Find(t *testing.T) {
	l := row(3, 5, 9, 10, 40)
	for _, h := range l { // the first, the last, and each between
		isFound(t, l, h)
	}
	for _, id := range []int{math.MinInt, -3, 0, 1, 2, 4, 6, 7, 8, 11, 39, 41, 1 << 40, math.MaxInt} {
		isMissing(t, l, id)
	}
}

// TestP1101FindAmongSoMany: each of none to forty, and what lies beside each.
func TestP1101FindAmongSoMany(t *testing.T) {
	var ids []int
	for n := range 41 {
		l := row(ids...)
		for i, h := range l {
			isFound(t, l, h)
			isMissing(t, l, 3*i+1)
		}
		isMissing(t, l, 3*n+1)
		isMissing(t, l, 3*n+2)
		ids = append(ids, 3*n+2)
	}
}

func TestP1101FindOfNone(t *testing.T) {
	for _, id := range []int{-1, 0, 1, 7, 1 << 40} {
		isMissing(t, nil, id)
		isMissing(t, []api.Hold{}, id)
	}
}

func TestP1101PutExample(t *testing.T) {
	isPut(t, []api.Hold{one(3, 1), one(9, 2)}, one(5, 3), []api.Hold{one(3, 1), one(5, 3), one(9, 2)})
}

func TestP1101Put(t *testing.T) {
	l := []api.Hold{one(3, 1), one(5, 0), one(9, 2)}
	isPut(t, l, one(1, 2), []api.Hold{one(1, 2), one(3, 1), one(5, 0), one(9, 2)})
	isPut(t, l, one(2, 0), []api.Hold{one(2, 0), one(3, 1), one(5, 0), one(9, 2)})
	isPut(t, l, one(4, 3), []api.Hold{one(3, 1), one(4, 3), one(5, 0), one(9, 2)})
	isPut(t, l, one(6, 1), []api.Hold{one(3, 1), one(5, 0), one(6, 1), one(9, 2)})
	isPut(t, l, one(8, 1), []api.Hold{one(3, 1), one(5, 0), one(8, 1), one(9, 2)})
	isPut(t, l, one(10, 1), []api.Hold{one(3, 1), one(5, 0), one(9, 2), one(10, 1)})
	isPut(t, l, one(1<<40, 4), []api.Hold{one(3, 1), one(5, 0), one(9, 2), one(1<<40, 4)})
	isPut(t, nil, one(4, 2), []api.Hold{one(4, 2)})
	isPut(t, []api.Hold{}, one(4, 0), []api.Hold{one(4, 0)})
	isPut(t, row(4), one(3, 1), []api.Hold{one(3, 1), one(4, 0)})
	isPut(t, row(4), one(5, 1), []api.Hold{one(4, 0), one(5, 1)})
}

// TestP1101PutInPlace: the new one stands where the elder one did, and nothing of the elder one is left.
func TestP1101PutInPlace(t *testing.T) {
	for n := 1; n < 14; n++ {
		var ids []int
		for i := range n {
			ids = append(ids, 2*i+1)
		}
		l := row(ids...)
		for i, h := range l {
			for _, young := range []api.Hold{
				{Id: h.Id},
				{Id: h.Id, Over: 1},
				{Id: h.Id, Until: 1},
				{Id: h.Id, Parts: []api.Part{{Lot: 8, N: 8}}, Over: h.Over, Until: h.Until},
				{Id: h.Id, Parts: []api.Part{{Lot: 8, N: 8}, {Lot: 9, N: 9}, {Lot: 10, N: 10}, {Lot: 11, N: 11}, {Lot: 12, N: 12}}, Over: 2, Until: 3},
				h,
			} {
				want := clone(l)
				want[i] = young
				isPut(t, l, young, want)
			}
		}
	}
}

func TestP1101Drop(t *testing.T) {
	l := row(3, 5, 9, 10)
	isDropped(t, l, 3, []api.Hold{l[1], l[2], l[3]})
	isDropped(t, l, 5, []api.Hold{l[0], l[2], l[3]})
	isDropped(t, l, 9, []api.Hold{l[0], l[1], l[3]})
	isDropped(t, l, 10, []api.Hold{l[0], l[1], l[2]})
	isDropped(t, row(4), 4, nil)
	for _, id := range []int{math.MinInt, -3, 0, 2, 4, 6, 8, 11, 1 << 40, math.MaxInt} {
		isDropped(t, l, id, l)
		isDropped(t, row(7), id, row(7))
		isDropped(t, nil, id, nil)
		isDropped(t, []api.Hold{}, id, nil)
	}
}

func TestP1101DropTwice(t *testing.T) {
	l := row(3, 5, 9, 10)
	for i, h := range l {
		want := slices.Delete(clone(l), i, i+1)
		once := isDropped(t, l, h.Id, want)
		isDropped(t, once, h.Id, want)
	}
}

func TestP1101Due(t *testing.T) {
	for _, until := range []int{0, 1, 9, 1000, api.LastTick, api.LastTick + api.MaxTTL, 1 << 40} {
		l := []api.Hold{{Id: 4, Parts: []api.Part{{Lot: 2, N: 3}}, Over: 5, Until: until}}
		isDue(t, l, until-1, nil)
		isDue(t, l, until, l)
		isDue(t, l, until+1, l)
	}
	for _, now := range []int{math.MinInt, -1, 0, 5, api.LastTick, math.MaxInt} {
		isDue(t, nil, now, nil)
		isDue(t, []api.Hold{}, now, nil)
	}
}

// TestP1101DueInOrder: by their Ids, whichever is due first.
func TestP1101DueInOrder(t *testing.T) {
	l := row(1, 2, 3, 4, 5, 6)
	for i, until := range []int{30, 10, 20, 10, 40, 5} {
		l[i].Until = until
	}
	for now, want := range map[int][]int{
		0: {}, 4: {}, 5: {5}, 6: {5}, 9: {5}, 10: {1, 3, 5}, 19: {1, 3, 5}, 20: {1, 2, 3, 5}, 29: {1, 2, 3, 5},
		30: {0, 1, 2, 3, 5}, 39: {0, 1, 2, 3, 5}, 40: {0, 1, 2, 3, 4, 5}, 1 << 60: {0, 1, 2, 3, 4, 5},
	} {
		var due []api.Hold
		for _, i := range want {
			due = append(due, l[i])
		}
		isDue(t, l, now, due)
	}
}

// TestP1102TillDropped: holds are put in this order and that, dropped one by one; each is there all the while between, and the others stay.
func TestP1102TillDropped(t *testing.T) {
	for _, step := range []int{1, 5, 7, 11, 12} { // each has no divisor with 13
		var l []api.Hold
		s := shelf{}
		all := func(api.Hold) bool { return true }
		for i := range 13 {
			h := one(2+3*(i*step%13), i%5)
			s[h.Id] = h
			l = isPut(t, l, h, s.list(all))
			isAsShelved(t, l, s)
		}
		for i := range 13 {
			id := 2 + 3*(i*i*step*4%13) // some of them are dropped again, some are never
			delete(s, id)
			l = isDropped(t, l, id, s.list(all))
			isAsShelved(t, l, s)
		}
		for i := range 13 {
			h := one(2+3*i, 4)
			h.Over = 3
			s[h.Id] = h
			l = isPut(t, l, h, s.list(all))
			isAsShelved(t, l, s)
		}
	}
}

func isAsShelved(t *testing.T, l []api.Hold, s shelf) {
	t.Helper()
	for id := range 45 {
		if h, is := s[id]; is {
			isFound(t, l, h)
		} else {
			isMissing(t, l, id)
		}
	}
}
