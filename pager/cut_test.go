package pager_test

import (
	"fmt"
	"testing"

	"toll/api"
	"toll/pager"
)

// run is a run of allocations, frees, aborts and commits, cut off where the power goes.
func run(r *rig, seed int) {
	for i := range 5 {
		for j := range 1 + (seed+i)%4 {
			if r.alloc(text(seed*64+i*8+j, (seed*50+j*99)%497)); r.d.Dead() {
				return
			}
		}
		if r.free(r.anyPage()); r.d.Dead() {
			return
		}
		if i == 3 {
			if r.abort(); r.d.Dead() {
				return
			}
		}
		if r.commit(fmt.Sprint("root", seed, i)) != api.OK {
			return
		}
	}
}

// TestP305Cuts lets the power go at each write of a run, and of the openings behind it.
func TestP305Cuts(t *testing.T) {
	for _, blocks := range []int{64, 4097, api.MaxPages} {
		for cut := 0; ; cut++ {
			r := newRig(t, blocks)
			run(r, 1)
			r.d.Cut(cut)
			run(r, 2)
			if !r.d.Dead() {
				break
			}
			r.showsDead()
			for again := range 6 {
				r.d.Start()
				r.d.Cut(again)
				if _, e := pager.Open(r.d); (e == api.ErrDead) != r.d.Dead() {
					t.Fatalf("P301: power for %d writes: %v", again, e)
				}
			}
			r.start()
			run(r, 3)
			r.open()
		}
	}
}

// TestP305Again cuts off run after run on one disk, at other writes each time.
func TestP305Again(t *testing.T) {
	for _, blocks := range []int{64, 9000} {
		r := newRig(t, blocks)
		for round := range 150 {
			if len(r.done.pages) > 20 {
				for n := range r.done.pages {
					r.free(n)
				}
			}
			r.d.Cut(round * 7 % 23)
			run(r, round)
			if r.d.Dead() {
				r.showsDead()
			}
			r.start()
		}
	}
}

// TestP305Commit cuts one Commit off at each of its writes: it is as it was, and, when all were done, as it was to be.
func TestP305Commit(t *testing.T) {
	for _, blocks := range []int{64, api.MaxPages} {
		for commits := range 4 {
			for cut := 0; ; cut++ {
				r := newRig(t, blocks)
				for i := range commits {
					r.alloc(text(i, 50))
					r.commit(fmt.Sprint("old", i))
				}
				r.free(r.anyPage())
				r.alloc("new")
				r.d.Cut(cut)
				if r.commit("new") == api.OK {
					r.start()
					break
				}
				r.start()
				if r.p.Seq() != commits || cut > 12 {
					t.Fatalf("P305: %d writes of a Commit: Seq %d", cut, r.p.Seq())
				}
			}
		}
	}
}

// FuzzCalls makes the calls that the bytes say, and holds each answer against a plain pager's.
func FuzzCalls(f *testing.F) {
	f.Add([]byte{0, 1, 10, 0, 2, 20, 3, 5, 0, 1, 0, 0, 3, 6, 0})
	f.Add([]byte{1, 0, 9, 5, 2, 0, 0, 30, 0, 0, 40, 3, 7, 0, 6, 0, 0})
	f.Add([]byte{2, 0, 255, 3, 9, 4, 0, 1, 0, 5, 0, 3, 1, 7, 0, 3, 200})
	f.Add([]byte(text(5, 300)))
	f.Add([]byte(text(6, 600)))
	f.Fuzz(func(t *testing.T, calls []byte) {
		if len(calls) == 0 || len(calls) > 2000 {
			return
		}
		r := newRig(t, []int{64, 65, 90, 4097}[calls[0]%4])
		for calls = calls[1:]; len(calls) >= 2; calls = calls[2:] {
			r.call(calls[0]%8, int(calls[1]))
		}
		if !r.d.Dead() {
			r.shows()
		}
		r.start()
	})
}

// call makes one call; without power, all of them, and the start.
func (r *rig) call(kind byte, x int) {
	r.t.Helper()
	switch kind {
	case 0, 1:
		r.alloc(text(x, x*499/255))
	case 2:
		r.free(x)
	case 3:
		r.commit(text(x, x%67))
	case 4:
		r.abort()
	case 5:
		r.d.Cut(x % 9)
	case 6:
		r.open()
	case 7:
		r.showsPage(x)
	}
	if r.d.Dead() {
		r.showsDead()
		r.start()
	}
}
