package lots_test

import (
	"testing"

	"toll/api"
	"toll/lots"
)

func TestP1001Rest(t *testing.T) {
	for _, c := range []struct {
		lot  api.Lot
		want int
	}{
		{api.Lot{}, 0},
		{lot(1, 0, 1, 9), 9},
		{api.Lot{Granted: 100, Consumed: 1}, 99},
		{api.Lot{Granted: 100, Held: 2}, 98},
		{api.Lot{Granted: 100, Expired: 3}, 97},
		{api.Lot{Granted: 100, Rolled: 4}, 96},
		{api.Lot{Granted: 100, Consumed: 1, Held: 20, Expired: 3, Rolled: 40}, 36},
		{api.Lot{Granted: 64, Consumed: 1, Held: 20, Expired: 3, Rolled: 40}, 0},
		{api.Lot{Granted: 63, Consumed: 1, Held: 20, Expired: 3, Rolled: 40}, -1},
		{api.Lot{Consumed: most, Held: most, Expired: most, Rolled: most}, -4 * most},
		{api.Lot{Granted: most}, most},
		{api.Lot{Id: 5, Kind: 2, From: 7, Until: 9}, 0}, // what a lot is counts not
	} {
		if n := lots.Rest(c.lot); n != c.want {
			t.Errorf("P1001: Rest(%+v): %d, not %d", c.lot, n, c.want)
		}
	}
}

func TestP1001HowMany(t *testing.T) {
	isChecked(t, nil, api.OK)
	isChecked(t, []api.Lot{}, api.OK)
	for n := range 40 {
		want := api.OK
		if n > 14 {
			want = api.ErrMany
		}
		isChecked(t, row(n), want)
	}
	isChecked(t, make([]api.Lot, 14), api.ErrArg)
	isChecked(t, make([]api.Lot, 15), api.ErrMany) // ahead of what the lots are
	isChecked(t, make([]api.Lot, 100000), api.ErrMany)
	isChecked(t, append(row(15), row(14)...)[:14], api.OK) // the spare room counts not
}

func TestP1001Ids(t *testing.T) {
	for _, c := range []struct {
		ids  []int
		want api.Errno
	}{
		{[]int{1}, api.OK}, {[]int{2}, api.OK}, {[]int{most - 1}, api.OK}, {[]int{most}, api.OK},
		{[]int{0}, api.ErrArg}, {[]int{-1}, api.ErrArg}, {[]int{most + 1}, api.ErrArg}, {[]int{-most}, api.ErrArg},
		{[]int{1, 2}, api.OK}, {[]int{1, most}, api.OK}, {[]int{most - 1, most}, api.OK}, {[]int{7, 9, 100}, api.OK},
		{[]int{1, 1}, api.ErrArg}, {[]int{2, 1}, api.ErrArg}, {[]int{most, most}, api.ErrArg}, {[]int{most, most + 1}, api.ErrArg}, {[]int{most, 1}, api.ErrArg},
		{[]int{1, 0}, api.ErrArg}, {[]int{1, -5}, api.ErrArg}, {[]int{0, 1}, api.ErrArg}, {[]int{-2, -1}, api.ErrArg},
		{[]int{1, 3, 2}, api.ErrArg}, {[]int{1, 3, 3}, api.ErrArg}, {[]int{5, 3, 4}, api.ErrArg}, {[]int{2, 3, 1}, api.ErrArg}, {[]int{1, 2, most + 1}, api.ErrArg},
	} {
		var l []api.Lot
		for _, id := range c.ids {
			l = append(l, lot(id, 0, 1, 1))
		}
		isChecked(t, l, c.want)
	}
}

// TestP1001IdsAtEachPlace: one that is as the one ahead, below it, or above what an Id may be.
func TestP1001IdsAtEachPlace(t *testing.T) {
	for i := range 14 {
		l := row(14)
		ahead := 0
		if i > 0 {
			ahead = l[i-1].Id
		}
		for _, id := range append(far, ahead, ahead-1, 0, -1, most+1) {
			l[i].Id = id
			isChecked(t, l, api.ErrArg)
		}
		l[i].Id = ahead + 1
		isChecked(t, l, api.OK)
	}
	l := row(14)
	l[13].Id = most
	isChecked(t, l, api.OK)
}

func TestP1001Kinds(t *testing.T) {
	for _, kind := range append(far, -3, -2, -1, 0, 1, 2, 3, 4, 255, 256, 257, 258, 1<<16, 1<<16+2, 1<<32, 1<<32+1, most) {
		want := api.ErrKind
		if kind == api.LAllow || kind == api.LRoll || kind == api.LPack {
			want = api.OK
		}
		for i := range 14 {
			l := row(14)
			l[i].Kind = kind
			isChecked(t, l, want)
		}
	}
}

func TestP1001Ticks(t *testing.T) {
	type ticks struct{ from, until int }
	fine := []ticks{{0, 1}, {0, 2}, {0, most}, {5, 6}, {most - 1, most}, {api.LastTick, api.LastTick + 1}, {1, most - 1}}
	wrong := []ticks{{-1, 1}, {-1, most}, {-1, 0}, {-2, -1}, {0, 0}, {1, 1}, {1, 0}, {6, 5}, {0, -1}, {0, most + 1}, {most, most + 1}, {most, most}, {most + 1, most + 2}, {most + 1, most}, {most, most - 1}}
	for _, n := range far {
		wrong = append(wrong, ticks{n, 5}, ticks{0, n}, ticks{n, n}, ticks{n, n + 1})
	}
	for i := range 14 {
		l := row(14)
		for _, x := range fine {
			l[i].From, l[i].Until = x.from, x.until
			isChecked(t, l, api.OK)
		}
		for _, x := range wrong {
			l[i].From, l[i].Until = x.from, x.until
			isChecked(t, l, api.ErrArg)
		}
	}
}

// units are the numbers of units that a lot has.
var units = []struct {
	name string
	at   func(l *api.Lot) *int
}{
	{"Granted", func(l *api.Lot) *int { return &l.Granted }},
	{"Consumed", func(l *api.Lot) *int { return &l.Consumed }},
	{"Held", func(l *api.Lot) *int { return &l.Held }},
	{"Expired", func(l *api.Lot) *int { return &l.Expired }},
	{"Rolled", func(l *api.Lot) *int { return &l.Rolled }},
}

// TestP1001Units: each number at its ends, and out of them, of a lot that has all units still, and of one in which the number itself is all.
func TestP1001Units(t *testing.T) {
	for _, u := range units {
		for i := range 14 {
			l := row(14)
			l[i] = lot(l[i].Id, 0, 1, most)
			for _, n := range []int{0, 1, most - 1, most} {
				*u.at(&l[i]) = n
				isChecked(t, l, api.OK)
			}
			for _, n := range append(far, -1, -2, most+1) {
				*u.at(&l[i]) = n
				isChecked(t, l, api.ErrBad)
			}
		}
		for _, n := range []int{-1, -5, most + 1, most + 2} { // Rest is not below 0 for that
			l := lot(1, 0, 1, n)
			*u.at(&l) = n
			isChecked(t, []api.Lot{l}, api.ErrBad)
		}
	}
}

// TestP1001EachIsMost: two numbers that are out of bounds, but make up for each other.
func TestP1001EachIsMost(t *testing.T) {
	for _, u := range units[1:] {
		for _, v := range units[1:] {
			if u.name == v.name {
				continue
			}
			for _, n := range []int{1, 5, most, most + 1, 1 << 62, -1 << 62} {
				l := lot(1, 0, 1, 100)
				*u.at(&l), *v.at(&l) = n, -n
				isChecked(t, []api.Lot{l}, api.ErrBad)
			}
		}
	}
}

// TestP1001RestOfZero: each number takes what remains to 0, and one below it.
func TestP1001RestOfZero(t *testing.T) {
	for _, granted := range []int{10, 1000, most - 1, most} {
		l := api.Lot{Id: 1, Kind: api.LRoll, Until: 5, Granted: granted, Consumed: 1, Held: 2, Expired: 3, Rolled: 4}
		for _, u := range units[1:] {
			x := l
			*u.at(&x) += rest(l)
			isChecked(t, []api.Lot{x}, api.OK)
			if rest(x) != 0 || lots.Rest(x) != 0 {
				t.Fatalf("P1001: Rest(%+v) is not 0", x)
			}
			less, more := x, x
			*u.at(&less)--
			isChecked(t, []api.Lot{less}, api.OK)
			*u.at(&more)++
			isChecked(t, []api.Lot{more}, api.ErrBad)
			x.Granted--
			isChecked(t, []api.Lot{x}, api.ErrBad)
		}
	}
	isChecked(t, []api.Lot{{Id: 1, Until: 1, Granted: most, Consumed: most, Held: most, Expired: most, Rolled: most}}, api.ErrBad)
	isChecked(t, []api.Lot{{Id: 1, Until: 1, Granted: 5, Consumed: 1 << 62, Held: 1 << 62, Expired: 1 << 62, Rolled: 1 << 62}}, api.ErrBad) // wraps round to 5
}

// faults are of one rule each, in the order in which the rules are named.
var faults = [][]struct {
	make func(l *api.Lot)
	want api.Errno
}{
	{{func(l *api.Lot) {}, api.OK}, {func(l *api.Lot) { l.Id = 0 }, api.ErrArg}, {func(l *api.Lot) { l.Id = most + 1 }, api.ErrArg}},
	{{func(l *api.Lot) {}, api.OK}, {func(l *api.Lot) { l.Kind = 3 }, api.ErrKind}, {func(l *api.Lot) { l.Kind = -1 }, api.ErrKind}},
	{{func(l *api.Lot) {}, api.OK}, {func(l *api.Lot) { l.From = -1 }, api.ErrArg}, {func(l *api.Lot) { l.Until = l.From }, api.ErrArg}, {func(l *api.Lot) { l.Until = most + 1 }, api.ErrArg}},
	{{func(l *api.Lot) {}, api.OK}, {func(l *api.Lot) { l.Granted = -1 }, api.ErrBad}, {func(l *api.Lot) { l.Consumed = -1 }, api.ErrBad}, {func(l *api.Lot) { l.Held = most + 1 }, api.ErrBad}, {func(l *api.Lot) { l.Rolled = l.Granted + 1 }, api.ErrBad}},
}

// faulty are lots with each choice of faults, and what is wrong with them first.
func faulty(base api.Lot) ([]api.Lot, []api.Errno) {
	all, wrong := []api.Lot{base}, []api.Errno{api.OK}
	for _, rule := range faults {
		var l []api.Lot
		var e []api.Errno
		for i, x := range all {
			for _, f := range rule {
				y := x
				f.make(&y)
				l = append(l, y)
				if wrong[i] == api.OK {
					e = append(e, f.want)
				} else {
					e = append(e, wrong[i])
				}
			}
		}
		all, wrong = l, e
	}
	return all, wrong
}

// TestP1001SeveralFaults: of a lot, and of two lots: the first one's are told.
func TestP1001SeveralFaults(t *testing.T) {
	ones, wrong := faulty(api.Lot{Id: 5, Kind: api.LRoll, From: 3, Until: 9, Granted: 10, Consumed: 2})
	others, wrongOthers := faulty(api.Lot{Id: 8, Kind: api.LPack, From: 0, Until: 2, Granted: 10, Held: 2})
	for i, x := range ones {
		isChecked(t, []api.Lot{x}, wrong[i])
		isChecked(t, []api.Lot{lot(4, 0, 1, 1), x, lot(9, 0, 1, 1)}, wrong[i])
		for k, y := range others {
			want := wrong[i]
			if want == api.OK {
				want = wrongOthers[k]
			}
			isChecked(t, []api.Lot{x, y}, want)
		}
	}
}
