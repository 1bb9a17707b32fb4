package lots_test

import (
	"slices"
	"testing"

	"toll/api"
	"toll/lots"
)

func TestP1002WhenValid(t *testing.T) {
	for _, x := range []api.Lot{lot(1, 0, 1, 7), lot(1, 0, 5, 7), lot(1, 3, 4, 7), lot(1, 3, 9, 7), lot(1, api.LastTick, api.LastTick+1, 7), lot(1, most-1, most, 7), lot(1, 0, most, 7)} {
		l := []api.Lot{x}
		isLeft(t, l, x.From-1, 0)
		isLeft(t, l, x.From, 7)
		isLeft(t, l, (x.From+x.Until)/2, 7)
		isLeft(t, l, x.Until-1, 7)
		isLeft(t, l, x.Until, 0)
		isLeft(t, l, x.Until+1, 0)
	}
	isLeft(t, nil, 0, 0)
	isLeft(t, []api.Lot{}, api.LastTick, 0)
}

func TestP1002OnlyRests(t *testing.T) {
	l := []api.Lot{
		{Id: 1, Kind: api.LAllow, From: 0, Until: 10, Granted: 1000, Consumed: 100, Held: 20, Expired: 3, Rolled: 400},
		{Id: 2, Kind: api.LRoll, From: 5, Until: 20, Granted: 50, Held: 50},
		{Id: 3, Kind: api.LRoll, From: 5, Until: 20, Granted: 0},
		{Id: 4, Kind: api.LPack, From: 9, Until: 15, Granted: 8, Consumed: 7},
		{Id: 5, Kind: api.LPack, From: 2, Until: 3, Granted: 10000},
	}
	for now, want := range map[int]int{0: 477, 1: 477, 2: 10477, 3: 477, 8: 477, 9: 478, 10: 1, 14: 1, 15: 0, 19: 0, 20: 0} {
		isLeft(t, l, now, want)
	}
}

func TestP1002TheGreatestSum(t *testing.T) {
	var l []api.Lot
	for i := range 14 {
		l = append(l, lot(i+1, 0, i+1, most))
	}
	for now := range 15 {
		isLeft(t, l, now, (14-now)*most)
	}
}

func TestP1003Example(t *testing.T) {
	l := []api.Lot{lot(1, 0, 10, 3), lot(2, 0, 5, 2)}
	isTaken(t, l, 4, 1, []api.Part{{Lot: 2, N: 2}, {Lot: 1, N: 2}}, 0)
}

func TestP1003HowMany(t *testing.T) {
	l := []api.Lot{lot(1, 0, 10, 3), lot(2, 0, 5, 2), lot(3, 0, 7, 4)}
	for n, want := range [][]api.Part{
		nil,
		{{Lot: 2, N: 1}},
		{{Lot: 2, N: 2}},
		{{Lot: 2, N: 2}, {Lot: 3, N: 1}},
		{{Lot: 2, N: 2}, {Lot: 3, N: 2}},
		{{Lot: 2, N: 2}, {Lot: 3, N: 3}},
		{{Lot: 2, N: 2}, {Lot: 3, N: 4}},
		{{Lot: 2, N: 2}, {Lot: 3, N: 4}, {Lot: 1, N: 1}},
		{{Lot: 2, N: 2}, {Lot: 3, N: 4}, {Lot: 1, N: 2}},
		{{Lot: 2, N: 2}, {Lot: 3, N: 4}, {Lot: 1, N: 3}}, // as many as are left
	} {
		isTaken(t, l, n, 1, want, 0)
	}
	all := []api.Part{{Lot: 2, N: 2}, {Lot: 3, N: 4}, {Lot: 1, N: 3}}
	for _, lack := range []int{1, 2, 91, api.MaxUnits, most, 1 << 61} {
		isTaken(t, l, 9+lack, 1, all, lack)
	}
}

func TestP1003NoLots(t *testing.T) {
	for _, n := range []int{0, 1, 5, api.MaxUnits, most} {
		isTaken(t, nil, n, 0, nil, n)
		isTaken(t, []api.Lot{}, n, 7, nil, n)
	}
}

// TestP1003EndTogether: by their Ids, not by when they began, by their kinds, or by what they have.
func TestP1003EndTogether(t *testing.T) {
	l := []api.Lot{
		{Id: 3, Kind: api.LPack, From: 5, Until: 20, Granted: 1},
		{Id: 5, Kind: api.LAllow, From: 0, Until: 20, Granted: 9, Held: 4},
		{Id: 6, Kind: api.LRoll, From: 3, Until: 20, Granted: 2},
		{Id: 9, Kind: api.LAllow, From: 2, Until: 20, Granted: 100, Expired: 1},
		{Id: 10, Kind: api.LAllow, From: 2, Until: 19, Granted: 1},
	}
	isTaken(t, l, 60, 5, []api.Part{{Lot: 10, N: 1}, {Lot: 3, N: 1}, {Lot: 5, N: 5}, {Lot: 6, N: 2}, {Lot: 9, N: 51}}, 0)
	isTaken(t, l, 60, 4, []api.Part{{Lot: 10, N: 1}, {Lot: 5, N: 5}, {Lot: 6, N: 2}, {Lot: 9, N: 52}}, 0)
	isTaken(t, l, 7, 19, []api.Part{{Lot: 3, N: 1}, {Lot: 5, N: 5}, {Lot: 6, N: 1}}, 0)
	l = nil
	var want []api.Part
	for i := range 14 {
		l = append(l, lot(i+1, i%4, 30, i+1))
		want = append(want, api.Part{Lot: i + 1, N: i + 1})
	}
	isTaken(t, l, 105, 3, want, 0)
	isTaken(t, l, 106, 29, want, 1)
}

// TestP1003ByUntil: lots that end in the other order than their Ids'.
func TestP1003ByUntil(t *testing.T) {
	var l []api.Lot
	var want []api.Part
	for i := range 14 {
		l = append(l, lot(i+1, 0, most-i, 10))
		want = append(want, api.Part{Lot: 14 - i, N: 10})
	}
	isTaken(t, l, 140, 0, want, 0)
	want[13].N = 9
	isTaken(t, l, 139, 0, want, 0)
	isTaken(t, l, 130, 0, want[:13], 0)
}

func TestP1003WhatHasNone(t *testing.T) {
	l := []api.Lot{
		lot(1, 0, 5, 0),
		{Id: 2, Until: 6, Granted: 9, Consumed: 9},
		{Id: 3, Until: 7, Granted: 9, Held: 9},
		{Id: 4, Until: 8, Granted: 9, Expired: 9},
		{Id: 5, Until: 9, Granted: 9, Rolled: 9},
		{Id: 6, Until: 10, Granted: 9, Consumed: 2, Held: 2, Expired: 2, Rolled: 3},
		{Id: 7, Until: 11, Granted: 9, Consumed: 2, Held: 2, Expired: 2, Rolled: 2},
		lot(8, 0, 12, 5),
	}
	isTaken(t, l, 4, 1, []api.Part{{Lot: 7, N: 1}, {Lot: 8, N: 3}}, 0)
	isTaken(t, l[:6], 4, 1, nil, 4)
	isTaken(t, l[:6], 0, 1, nil, 0)
}

// TestP1003WhenValid: at From, one tick ahead of it, at Until and one tick ahead of it.
func TestP1003WhenValid(t *testing.T) {
	l := []api.Lot{lot(1, 10, 20, 5), lot(2, 12, 15, 6), lot(3, 0, 12, 7)}
	for _, c := range []struct {
		now  int
		want []api.Part
		lack int
	}{
		{0, []api.Part{{Lot: 3, N: 7}}, 93}, {9, []api.Part{{Lot: 3, N: 7}}, 93}, {10, []api.Part{{Lot: 3, N: 7}, {Lot: 1, N: 5}}, 88},
		{11, []api.Part{{Lot: 3, N: 7}, {Lot: 1, N: 5}}, 88}, {12, []api.Part{{Lot: 2, N: 6}, {Lot: 1, N: 5}}, 89}, {14, []api.Part{{Lot: 2, N: 6}, {Lot: 1, N: 5}}, 89},
		{15, []api.Part{{Lot: 1, N: 5}}, 95}, {19, []api.Part{{Lot: 1, N: 5}}, 95}, {20, nil, 100}, {api.LastTick, nil, 100},
	} {
		isTaken(t, l, 100, c.now, c.want, c.lack)
	}
	last := []api.Lot{lot(1, api.LastTick, most, most)}
	isTaken(t, last, most, api.LastTick, []api.Part{{Lot: 1, N: most}}, 0)
	isTaken(t, last, most, api.LastTick-1, nil, most)
}

// TestP1003Again: what is held is not taken again; what is left goes on being so.
func TestP1003Again(t *testing.T) {
	l := []api.Lot{lot(1, 0, 10, 3), lot(2, 0, 5, 2), lot(3, 0, 5, 4)}
	l = isTaken(t, l, 3, 0, []api.Part{{Lot: 2, N: 2}, {Lot: 3, N: 1}}, 0)
	isLeft(t, l, 0, 6)
	l = isTaken(t, l, 4, 0, []api.Part{{Lot: 3, N: 3}, {Lot: 1, N: 1}}, 0)
	l = isTaken(t, l, 4, 0, []api.Part{{Lot: 1, N: 2}}, 2)
	isLeft(t, l, 0, 0)
	isTaken(t, l, 1, 0, nil, 1)
}

// held are a lot that has had something of everything, one that holds all it has, one that holds nothing, and one that begins later.
func held() []api.Lot {
	return []api.Lot{
		{Id: 2, Kind: api.LAllow, From: 0, Until: 10, Granted: 20, Consumed: 5, Held: 6, Expired: 1, Rolled: 2},
		{Id: 3, Kind: api.LRoll, From: 0, Until: 5, Granted: 4, Held: 4},
		{Id: 7, Kind: api.LPack, From: 0, Until: 12, Granted: 5},
		{Id: 8, Kind: api.LPack, From: 6, Until: 20, Granted: 3, Held: 3},
	}
}

// ended is one of held's lots behind a Use: so many units more are consumed, fewer held, more expired.
func ended(l []api.Lot, i, consumed, given, expired int) []api.Lot {
	l[i].Consumed += consumed
	l[i].Held -= consumed + given + expired
	l[i].Expired += expired
	return l
}

func TestP1004HowMany(t *testing.T) {
	p := []api.Part{{Lot: 3, N: 4}, {Lot: 2, N: 6}}
	for n := range 20 {
		of3 := min(n, 4)
		of2 := min(n-of3, 6)
		want := ended(ended(held(), 1, of3, 4-of3, 0), 0, of2, 6-of2, 0)
		isUsed(t, held(), p, n, 1, want, max(n-10, 0))
	}
	all := ended(ended(held(), 1, 4, 0, 0), 0, 6, 0, 0)
	for _, lack := range []int{1, api.MaxUnits, most, 1 << 61} {
		isUsed(t, held(), p, 10+lack, 1, all, lack)
	}
}

// TestP1004InOrder: that of the parts, not that of the lots, of their ends, or of what they have.
func TestP1004InOrder(t *testing.T) {
	isUsed(t, held(), []api.Part{{Lot: 2, N: 6}, {Lot: 3, N: 4}}, 7, 1, ended(ended(held(), 0, 6, 0, 0), 1, 1, 3, 0), 0)
	isUsed(t, held(), []api.Part{{Lot: 3, N: 4}, {Lot: 2, N: 6}}, 7, 1, ended(ended(held(), 1, 4, 0, 0), 0, 3, 3, 0), 0)
	isUsed(t, held(), []api.Part{{Lot: 8, N: 3}, {Lot: 3, N: 4}, {Lot: 2, N: 6}}, 4, 1, ended(ended(ended(held(), 3, 3, 0, 0), 1, 1, 3, 0), 0, 0, 6, 0), 0)
	isUsed(t, held(), []api.Part{{Lot: 3, N: 4}, {Lot: 8, N: 3}}, 0, 5, ended(ended(held(), 1, 0, 0, 4), 3, 0, 3, 0), 0)
}

// TestP1004OfWhatIsHeld: a part may be less than the lot has held; the others' units stay held.
func TestP1004OfWhatIsHeld(t *testing.T) {
	isUsed(t, held(), []api.Part{{Lot: 2, N: 2}}, 1, 1, ended(held(), 0, 1, 1, 0), 0)
	isUsed(t, held(), []api.Part{{Lot: 2, N: 2}}, 1, 10, ended(held(), 0, 1, 0, 1), 0)
	isUsed(t, held(), []api.Part{{Lot: 2, N: 2}}, 5, 1, ended(held(), 0, 2, 0, 0), 3)
	isUsed(t, held(), []api.Part{{Lot: 2, N: 5}, {Lot: 8, N: 1}}, 0, 30, ended(ended(held(), 0, 0, 0, 5), 3, 0, 0, 1), 0)
}

// TestP1004WhenOver: at Until, one tick ahead of it, behind it; ahead of From nothing is over. What is consumed is so at any tick.
func TestP1004WhenOver(t *testing.T) {
	for now, over := range map[int]bool{0: false, 9: false, 10: true, 11: true, api.LastTick: true} {
		for n := range 9 {
			consumed := min(n, 6)
			given := 6 - consumed
			want := ended(held(), 0, consumed, given, 0)
			if over {
				want = ended(held(), 0, consumed, 0, given)
			}
			isUsed(t, held(), []api.Part{{Lot: 2, N: 6}}, n, now, want, n-consumed)
		}
	}
	isUsed(t, held(), []api.Part{{Lot: 8, N: 3}}, 1, 0, ended(held(), 3, 1, 2, 0), 0)
	isUsed(t, held(), []api.Part{{Lot: 8, N: 3}}, 1, 5, ended(held(), 3, 1, 2, 0), 0)
	isUsed(t, held(), []api.Part{{Lot: 8, N: 3}}, 1, 6, ended(held(), 3, 1, 2, 0), 0)
	isUsed(t, held(), []api.Part{{Lot: 8, N: 3}}, 1, 20, ended(held(), 3, 1, 0, 2), 0)
}

// TestP1004OneOver: of two lots one is over, the other is not.
func TestP1004OneOver(t *testing.T) {
	p := []api.Part{{Lot: 3, N: 4}, {Lot: 2, N: 6}}
	isUsed(t, held(), p, 3, 5, ended(ended(held(), 1, 3, 0, 1), 0, 0, 6, 0), 0)
	isUsed(t, held(), p, 3, 9, ended(ended(held(), 1, 3, 0, 1), 0, 0, 6, 0), 0)
	isUsed(t, held(), p, 3, 10, ended(ended(held(), 1, 3, 0, 1), 0, 0, 0, 6), 0)
	isUsed(t, held(), p, 0, 4, ended(ended(held(), 1, 0, 4, 0), 0, 0, 6, 0), 0)
	isUsed(t, held(), p, 0, 7, ended(ended(held(), 1, 0, 0, 4), 0, 0, 6, 0), 0)
}

// TestP1004NoParts: nothing ends, lots that are over too stay as they are.
func TestP1004NoParts(t *testing.T) {
	for _, now := range []int{0, 5, 10, 1000} {
		for _, n := range []int{0, 1, most} {
			isUsed(t, held(), nil, n, now, held(), n)
			isUsed(t, held(), []api.Part{}, n, now, held(), n)
			isUsed(t, held(), []api.Part{{Lot: 3, N: 0}, {Lot: 7, N: 0}}, n, now, held(), n)
			isUsed(t, nil, nil, n, now, nil, n)
		}
	}
}

func TestP1004TheGreatest(t *testing.T) {
	l := []api.Lot{{Id: most, Kind: api.LPack, From: 0, Until: 5, Granted: most, Held: most}}
	p := []api.Part{{Lot: most, N: most}}
	isUsed(t, l, p, most, 9, []api.Lot{{Id: most, Kind: api.LPack, From: 0, Until: 5, Granted: most, Consumed: most}}, 0)
	isUsed(t, l, p, 0, 5, []api.Lot{{Id: most, Kind: api.LPack, From: 0, Until: 5, Granted: most, Expired: most}}, 0)
	isUsed(t, l, p, 0, 4, []api.Lot{{Id: most, Kind: api.LPack, From: 0, Until: 5, Granted: most}}, 0)
	isUsed(t, l, p, most+1, 4, []api.Lot{{Id: most, Kind: api.LPack, From: 0, Until: 5, Granted: most, Consumed: most}}, 1)
}

// TestP1005Given: what was taken and is given back ahead of each Until is as it was.
func TestP1005Given(t *testing.T) {
	for n := range 15 {
		l := row(n)
		for _, k := range []int{0, 1, 50, 500, 2000} {
			behind, parts, _ := lots.Take(l, k, 13)
			isUsed(t, behind, parts, 0, 13, l, 0)
		}
	}
}

// TestP1005NoPartBelowZero: by P1004's words a part may be below 0; it has no units, and no lot comes to hold more than it has.
func TestP1005NoPartBelowZero(t *testing.T) {
	l := []api.Lot{{Id: 1, Until: 5, Granted: 4, Held: 1, Consumed: 3}, {Id: 2, Until: 5, Granted: 4, Held: 4}}
	for _, n := range append(far, -1, -2) {
		if n < 0 {
			isUsed(t, l, []api.Part{{Lot: 1, N: n}}, 0, 1, l, 0)
			isUsed(t, l, []api.Part{{Lot: 1, N: n}, {Lot: 2, N: 4}}, 4, 7, []api.Lot{l[0], {Id: 2, Until: 5, Granted: 4, Consumed: 4}}, 0)
		}
	}
}

// dice are numbers that look like chance, but are the same in each run.
type dice uint64

func (d *dice) roll(n int) int {
	*d = *d*6364136223846793005 + 1442695040888963407
	return int(uint64(*d)>>33) % n
}

func (d *dice) lots() []api.Lot {
	var l []api.Lot
	id := 0
	for range d.roll(15) {
		id += 1 + d.roll(3)
		from := d.roll(12)
		l = append(l, api.Lot{Id: id, Kind: d.roll(3), From: from, Until: from + 1 + d.roll(12), Granted: 6 + d.roll(9), Consumed: d.roll(3), Expired: d.roll(3), Rolled: d.roll(3)})
	}
	return l
}

// TestP1005ManyHolds: tick by tick holds are taken and ended, held against the plain reading; T3 all along.
func TestP1005ManyHolds(t *testing.T) {
	d := dice(10)
	for range 400 {
		l := d.lots()
		isChecked(t, l, api.OK)
		var open [][]api.Part
		for now := range 26 {
			for range 3 {
				n := d.roll(30)
				want, parts, lack := taken(l, n, now)
				l = isTaken(t, l, n, now, parts, lack)
				if !slices.Equal(l, want) {
					t.Fatalf("P1003: %+v, not %+v", l, want)
				}
				open = append(open, parts)
			}
			for len(open) > 0 && d.roll(3) > 0 {
				i, n := d.roll(len(open)), d.roll(20)
				want, lack := used(l, open[i], n, now)
				isUsed(t, l, open[i], n, now, want, lack)
				l, open = want, slices.Delete(open, i, i+1)
			}
			isAllHeld(t, l, open)
		}
	}
}

// isAllHeld holds that each lot has held what the open parts have of it, no more.
func isAllHeld(t *testing.T, l []api.Lot, open [][]api.Part) {
	t.Helper()
	of := map[int]int{}
	for _, parts := range open {
		for _, x := range parts {
			of[x.Lot] += x.N
		}
	}
	for _, x := range l {
		if x.Held != of[x.Id] || x.Granted != x.Consumed+x.Held+x.Expired+x.Rolled+lots.Rest(x) {
			t.Fatalf("P1005: %+v has %d in parts", x, of[x.Id])
		}
	}
}
