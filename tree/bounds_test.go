package tree_test

import (
	"fmt"
	"maps"
	"slices"
	"strings"
	"testing"

	"toll/api"
)

func TestP403Height(t *testing.T) {
	r := newRig(t, 64)
	if r.x.Height() != 0 {
		t.Errorf("P403: no keys: %d high", r.x.Height())
	}
	r.put("a", "")
	if r.x.Height() != 1 {
		t.Errorf("P403: one key: %d high", r.x.Height())
	}
	r.commit()
	r.open()
	if r.x.Height() != 1 {
		t.Errorf("P403: one key, opened again: %d high", r.x.Height())
	}
	r.del("a")
	if r.x.Height() != 0 {
		t.Errorf("P403: no keys any more: %d high", r.x.Height())
	}
	r.abort()
	if r.x.Height() != 1 {
		t.Errorf("P403: behind Abort: %d high", r.x.Height())
	}
	r.del("a")
	r.commit()
	r.open()
}

// order tells which of n comes i-th; n is no multiple of 389.
func order(kind string, i, n int) int {
	switch kind {
	case "falling":
		return n - 1 - i
	case "mixed":
		return i * 389 % n
	case "ends":
		if i%2 == 1 {
			return n - 1 - i/2
		}
		return i / 2
	}
	return i
}

func orders() []string { return []string{"rising", "falling", "mixed", "ends"} }

// shape makes keys and values of one kind of lengths.
type shape struct {
	key   func(i int) string
	value func(i int) string
}

func shapes() []shape {
	number := func(i int) string { return fmt.Sprintf("%04d", i) }
	return []shape{
		{number, func(i int) string { return "" }},
		{func(i int) string { return number(i) + strings.Repeat("k", 44) }, func(i int) string { return strings.Repeat("v", 120) }},
		{func(i int) string { return number(i) + text(i, i*i%45) }, func(i int) string { return text(i, i*7%121) }},
		{func(i int) string { return strings.Repeat("p", i%45) + number(i) }, func(i int) string { return text(i, i%2*120) }},
	}
}

// Keys come and go in many orders, in commits of many lengths.
func TestP403Orders(t *testing.T) {
	const n = 600
	for _, in := range orders() {
		for s, sh := range shapes() {
			r := newRig(t, 4000)
			every := 1 + s*s*7
			for i := range n {
				j := order(in, i, n)
				r.put(sh.key(j), sh.value(j))
				if i%every == 0 {
					r.commit()
				}
			}
			r.commit()
			r.open()
			for k, out := range orders() {
				r.goes(sh, out, every+k, n)
			}
		}
	}
}

// goes deletes all keys in an order, and aborts, or commits the half of them, and puts them again.
func (r *rig) goes(sh shape, out string, every, n int) {
	r.t.Helper()
	for i := range n {
		r.del(sh.key(order(out, i, n)))
	}
	if r.x.Height() != 0 || r.x.Left() != r.p.Left() {
		r.t.Fatalf("P403: no keys: %d high", r.x.Height())
	}
	r.abort()
	for i := range n / 2 {
		r.del(sh.key(order(out, i, n)))
		if i%every == 0 {
			r.commit()
		}
	}
	r.commit()
	r.open()
	for i := range n / 2 {
		j := order(out, i, n)
		r.put(sh.key(j), sh.value(j+1))
		if i%every == 0 {
			r.commit()
		}
	}
	r.commit()
}

// One key a Commit: the bounds hold for each alone.
func TestP403OneByOne(t *testing.T) {
	const n = 251
	for _, in := range orders() {
		for _, sh := range shapes() {
			r := newRig(t, 2000)
			for i := range n {
				j := order(in, i, n)
				r.put(sh.key(j), sh.value(j))
				r.commit()
			}
			for i := range n {
				j := order("mixed", i, n)
				r.put(sh.key(j), sh.value(j+3))
				r.commit()
			}
			for i := range n {
				r.del(sh.key(order(in, i, n)))
				r.commit()
			}
			if r.x.Left() != r.base {
				t.Errorf("P403: no keys: %d left, not %d", r.x.Left(), r.base)
			}
			r.open()
		}
	}
}

// One key that comes, goes and changes often counts once, however many nodes it had made anew.
func TestP403OneKeyOften(t *testing.T) {
	for seed := range 150 {
		r := newRig(t, 1000)
		sh := shapes()[seed%4]
		n := 1 + seed*seed%211
		for i := range n {
			j := i * 389 % 997
			r.put(sh.key(j), sh.value(i+seed))
		}
		r.commit()
		for round := range 12 {
			key := sh.key((seed*31 + round*89) % 997)
			for i := range 30 {
				if i*i%7 == round%3 {
					r.del(key)
				} else {
					r.put(key, text(i, (i*round+seed)%3*60))
				}
			}
			r.commit()
		}
		r.open()
	}
}

// Values that become longer and shorter, and keys that come and go, over many commits: no page is lost.
func TestP404ManyCommits(t *testing.T) {
	for seed := range 4 {
		r := newRig(t, 1500)
		x := uint32(seed + 1)
		next := func(n int) int {
			x = x*1664525 + 1013904223
			return int(x>>8) % n
		}
		for i := range 6000 {
			n := next(40 + i%400)
			key := fmt.Sprint(n) + text(n, n%45)
			if next(100) < 45+i/1000%2*20 {
				r.put(key, text(i, next(121)))
			} else if l := r.x.Scan(key, "", 1); len(l) == 1 {
				r.del(l[0].Key)
			}
			switch next(40) {
			case 0, 1, 2:
				r.commit()
			case 3:
				r.abort()
			}
			if i%1500 == 1499 {
				r.shows()
				r.open()
			}
		}
		for k := range r.now {
			r.del(k)
		}
		r.commit()
		if r.x.Left() != r.base {
			t.Errorf("P403: no keys: %d left, not %d", r.x.Left(), r.base)
		}
	}
}

// full puts keys till the disk is full, and tells how the tree said it.
func (r *rig) full(every, size int) api.Errno {
	r.t.Helper()
	for i := range 100000 {
		if e := r.put(fmt.Sprintf("%05d", i*7919%100003), text(i, size)); e != api.OK {
			return e
		}
		if i%every == every-1 {
			if e := r.commit(); e != api.OK {
				return e
			}
		}
	}
	r.t.Fatal("P401: the disk is never full")
	return api.OK
}

func TestP401Full(t *testing.T) {
	for _, c := range []struct{ blocks, every, size int }{
		{64, 1, 0}, {64, 1, 50}, {64, 1, 120}, {64, 3, 0}, {64, 3, 120}, {64, 10, 50}, {64, 100000, 0}, {64, 100000, 120},
		{65, 1, 99}, {67, 2, 120}, {70, 4, 77}, {100, 1, 120}, {100, 60, 50}, {1000, 60, 120}, {1000, 100000, 120},
	} {
		r := newRig(t, c.blocks)
		if e := r.full(c.every, c.size); e != api.ErrDiskFull {
			t.Fatalf("P401: %v: %v", c, e)
		}
		r.abort()
		r.shows()
		r.open()
		if c.every < 10 && len(r.now) < 40 {
			t.Errorf("P402: %v: full with %d keys", c, len(r.now))
		}
		r.isUsable()
	}
}

// isUsable holds that a full tree can be read, and emptied by one Commit: that needs no page.
func (r *rig) isUsable() {
	r.t.Helper()
	for _, k := range slices.Sorted(maps.Keys(r.now)) {
		if e := r.del(k); e != api.OK {
			r.t.Fatalf("P401: Del of a full disk: %v", e)
		}
	}
	if e := r.commit(); e != api.OK || r.x.Left() != r.base {
		r.t.Fatalf("P402: all were deleted: %v, %d left, not %d", e, r.x.Left(), r.base)
	}
	r.open()
	r.put("a", "1")
	r.commit()
	r.open()
}

// Puts and deletes at the edge: each answer is one that P401 and P402 allow, and Abort brings what was committed.
func TestP402Edge(t *testing.T) {
	r := newRig(t, 64)
	full := 0
	for i := range 4000 {
		e := api.OK
		switch i * 7 % 11 {
		case 0, 1, 2, 3, 4, 5, 6:
			e = r.put(fmt.Sprint(i*13%397), text(i, 60+i%61))
		case 7, 8:
			if l := r.x.Scan(fmt.Sprint(i*17%397), "", 1); len(l) == 1 {
				e = r.del(l[0].Key)
			}
		default:
			e = r.commit()
		}
		if e == api.ErrDiskFull {
			full++
			r.abort()
			r.shows()
			if full%5 == 0 {
				r.open()
			}
		}
	}
	if full == 0 {
		t.Error("P402: the disk was never full")
	}
}

// Commit answers ErrDiskFull just where Left() is below 0, changes nothing then, and Abort makes all good.
func TestP402CommitFull(t *testing.T) {
	r := newRig(t, 64)
	for i := range 20 {
		r.put(fmt.Sprint(i), text(i, 100))
	}
	r.commit()
	for i := 0; r.x.Left() >= 0; i++ {
		if e := r.put(fmt.Sprint("more", i), text(i, 100)); e != api.OK {
			t.Fatalf("P401: Put, %d left: %v", r.x.Left(), e)
		}
	}
	wrote := r.d.Writes()
	for range 3 {
		if e := r.commit(); e != api.ErrDiskFull || r.d.Writes() != wrote {
			t.Fatalf("P402: Commit, %d left: %v", r.x.Left(), e)
		}
		r.shows()
	}
	if e := r.put("one more", ""); e != api.ErrDiskFull {
		t.Errorf("P401: Put, %d left: %v", r.x.Left(), e)
	}
	if r.put("", "") != api.ErrArg || r.put("a", text(1, 121)) != api.ErrLong || r.del("nobody") != api.ErrNone {
		t.Error("P6: ErrDiskFull ahead of others")
	}
	r.abort()
	r.shows()
	r.put("a", "1")
	if e := r.commit(); e != api.OK {
		t.Errorf("P402: behind Abort: %v", e)
	}
	r.open()
}

// More keys than two bytes can count, on the greatest disk there is.
func TestP404Great(t *testing.T) {
	const n = 70001
	r := newRig(t, api.MaxPages)
	for i := range n {
		r.put(fmt.Sprintf("%05d", i*7919%n), text(i, i%5))
		if i%10000 == 9999 {
			r.commit()
		}
	}
	r.commit()
	r.open()
	if r.x.Len() != n {
		t.Errorf("P401: Len %d, not %d", r.x.Len(), n)
	}
}
