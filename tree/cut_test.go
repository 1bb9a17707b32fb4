package tree_test

import (
	"fmt"
	"testing"

	"toll/api"
)

// run is a run of puts, deletes, aborts and commits, cut off where the power goes.
func run(r *rig, seed int) {
	for i := range 6 {
		for j := range 4 + (seed+i)%5 {
			n := seed*31 + i*7 + j
			r.put(fmt.Sprint(n%37), text(n, n*11%121))
			if l := r.x.Scan(fmt.Sprint(n*5%37), "", 1); j%3 == 2 && len(l) == 1 {
				r.del(l[0].Key)
			}
		}
		if i == 3 {
			r.abort()
		}
		if r.commit() != api.OK {
			return
		}
	}
}

// TestP402Cuts lets the power go at each write of a run: what is opened again is whole.
func TestP402Cuts(t *testing.T) {
	for _, blocks := range []int{128, 4097} {
		for cut := 0; ; cut++ {
			r := newRig(t, blocks)
			run(r, 1)
			r.d.Cut(cut)
			run(r, 2)
			if !r.d.Dead() {
				break
			}
			r.showsDead()
			r.start()
			run(r, 3)
			r.shows()
			r.open()
		}
	}
}

// TestP402CutsAgain cuts off run after run on one disk.
func TestP402CutsAgain(t *testing.T) {
	r := newRig(t, 128)
	for round := range 120 {
		r.d.Cut(round * 7 % 61)
		run(r, round)
		if r.d.Dead() {
			r.showsDead()
		}
		r.start()
	}
}

// TestW7Commit cuts one Commit off at each of its writes: all of it is there, or nothing.
func TestW7Commit(t *testing.T) {
	for cut := 0; ; cut++ {
		r := newRig(t, 512)
		for i := range 100 {
			r.put(fmt.Sprint(i), text(i, 70))
		}
		r.commit()
		for i := range 100 {
			r.del(fmt.Sprint(i * 3))
			r.put(fmt.Sprint(i*7, "x"), text(-i, 90))
		}
		r.d.Cut(cut)
		if r.commit() == api.OK {
			r.start()
			break
		}
		r.showsDead()
		r.d.Start()
		r.showsDead()
		r.start()
		if len(r.now) != 100 {
			t.Fatalf("W7: %d keys behind %d writes of a Commit that was cut off", len(r.now), cut)
		}
	}
}

// FuzzCalls makes the calls that the bytes say, and holds each answer against a plain map's.
func FuzzCalls(f *testing.F) {
	f.Add([]byte{0, 0, 1, 0, 2, 3, 0, 1, 1, 5, 0, 4, 0, 0, 9, 3, 0})
	f.Add([]byte{1, 0, 200, 0, 201, 0, 202, 2, 200, 3, 0, 6, 3, 0, 7, 3, 0})
	f.Add([]byte{3, 0, 0, 1, 0, 2, 0, 3, 0, 7, 0})
	for seed := range 6 {
		f.Add([]byte(string(rune(seed)) + text(seed, 900)))
	}
	f.Fuzz(func(t *testing.T, calls []byte) {
		if len(calls) == 0 || len(calls) > 4000 {
			return
		}
		r := newRig(t, []int{64, 80, 300, 4097}[calls[0]%4])
		for calls = calls[1:]; len(calls) >= 2; calls = calls[2:] {
			r.call(calls[0], int(calls[1]))
		}
		r.start()
	})
}

// call makes one call; where the disk is full, it aborts; where the power is gone, it starts it.
func (r *rig) call(kind byte, x int) {
	r.t.Helper()
	e := api.OK
	key := text(x%64, x%64*50/63)
	switch kind % 16 {
	case 0, 1, 2, 3, 4, 5:
		e = r.put(key, text(x+int(kind), (x*3+int(kind))%122))
	case 6, 7:
		r.del(key)
	case 8, 9, 10:
		if l := r.x.Scan(key, "", 1); len(l) == 1 {
			e = r.del(l[0].Key)
		}
	case 11:
		e = r.commit()
	case 12:
		r.abort()
	case 13:
		r.scans(key, text(int(kind), 1), x%9)
	case 14:
		r.d.Cut(x % 40)
	case 15:
		r.open()
	}
	if r.d.Dead() {
		r.showsDead()
		r.start()
	}
	if e == api.ErrDiskFull {
		r.abort()
		r.shows()
	}
}
