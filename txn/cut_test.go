package txn_test

import (
	"fmt"
	"testing"

	"toll/api"
)

// run is a run of transactions, cut off where the power goes.
func run(r *rig, seed int) {
	for i := range 6 {
		r.begin()
		if r.x == nil {
			return
		}
		for j := range 4 + (seed+i)%5 {
			n := seed*31 + i*7 + j
			r.put(fmt.Sprint(n%37), text(n, n*11%121))
			if l := r.x.Scan(fmt.Sprint(n*5%37), "", 1); j%3 == 2 && len(l) == 1 {
				r.del(l[0].Key)
			}
		}
		if len(r.views) < 5 {
			r.look()
		}
		if i == 3 {
			r.abort()
		} else if r.commit() != api.OK {
			return
		}
	}
}

// TestP503Cuts lets the power go at each write of a run, and at the opening behind it: what is opened again is whole.
func TestP503Cuts(t *testing.T) {
	for _, blocks := range []int{128, 4097} {
		for cut := 0; ; cut++ {
			r := newRig(t, blocks)
			run(r, 1)
			r.d.Cut(cut)
			run(r, 2)
			if !r.d.Dead() {
				break
			}
			r.showsDead()
			r.start()
			run(r, 3)
			r.shows()
			r.open()
		}
	}
}

// TestP503CutsAgain cuts off run after run on one disk.
func TestP503CutsAgain(t *testing.T) {
	r := newRig(t, 128)
	for round := range 120 {
		r.d.Cut(round * 7 % 61)
		run(r, round)
		if r.d.Dead() {
			r.showsDead()
		}
		r.start()
	}
}

// TestW7Commit cuts one Commit off at each of its writes: all of it is there, or nothing.
func TestW7Commit(t *testing.T) {
	for cut := 0; ; cut++ {
		r := newRig(t, 512)
		r.begin()
		for i := range 100 {
			r.put(fmt.Sprint(i), text(i, 70))
		}
		r.commit()
		r.look()
		r.begin()
		for i := range 100 {
			r.del(fmt.Sprint(i * 3))
			r.put(fmt.Sprint(i*7, "x"), text(-i, 90))
		}
		r.d.Cut(cut)
		if r.commit() == api.OK {
			r.start()
			break
		}
		r.showsDead()
		r.d.Start()
		if x, e := r.s.Begin(); x != nil || e != api.ErrDead {
			t.Fatalf("P501: Begin where the power went, and came again: %v", e)
		}
		r.start()
		if len(r.done) != 100 || r.s.Commits() != 1 {
			t.Fatalf("W7: %d keys, %d commits behind %d writes of a Commit that was cut off", len(r.done), r.s.Commits(), cut)
		}
	}
}

// FuzzCalls makes the calls that the bytes say, and holds each answer against plain maps.
func FuzzCalls(f *testing.F) {
	f.Add([]byte{0, 0, 1, 0, 2, 3, 0, 1, 1, 5, 0, 4, 0, 0, 9, 3, 0})
	f.Add([]byte{1, 0, 200, 0, 201, 12, 1, 10, 0, 12, 3, 2, 200, 10, 0})
	for seed := range 6 {
		f.Add([]byte(string(rune(seed)) + text(seed, 900)))
	}
	f.Fuzz(func(t *testing.T, calls []byte) {
		if len(calls) == 0 || len(calls) > 4000 {
			return
		}
		r := newRig(t, []int{64, 80, 300, 4097}[calls[0]%4])
		for calls = calls[1:]; len(calls) >= 2; calls = calls[2:] {
			r.call(calls[0], int(calls[1]))
		}
		r.start()
	})
}

// call makes one call, with a transaction begun where there is none; where the power is gone, it starts it.
func (r *rig) call(kind byte, x int) {
	r.t.Helper()
	if r.x == nil && kind%16 < 12 {
		r.begin()
	}
	key := text(x%64, x%64*50/63)
	switch kind % 16 {
	case 0, 1, 2, 3, 4:
		r.put(key, text(x+int(kind), (x*3+int(kind))%122))
	case 5, 6:
		r.del(key)
	case 7, 8:
		if l := r.x.Scan(key, "", 1); len(l) == 1 {
			r.del(l[0].Key)
		}
	case 9, 10:
		r.commit()
	case 11:
		r.abort()
	case 12:
		r.look()
	case 13:
		if len(r.views) > 0 {
			r.close(x % len(r.views))
		}
	case 14:
		r.shows()
	case 15:
		r.cutOrOpen(x)
	}
	if r.d.Dead() {
		r.showsDead()
		r.start()
	}
}

func (r *rig) cutOrOpen(x int) {
	r.t.Helper()
	switch {
	case x < 100:
		r.d.Cut(x % 30)
	case x < 110:
		kill(r.d)
	case x < 150:
		r.open()
	default:
		r.begin()
	}
}
