package txn_test

import (
	"fmt"
	"testing"

	"toll/api"
)

// TestP502Example: Look, Put, Commit: the view shows what was ahead.
func TestP502Example(t *testing.T) {
	r := newRig(t, 64)
	v := r.look()
	r.begin()
	r.put("a", "1")
	r.commit()
	if _, is := v.Get("a"); is || len(v.Scan("", "", 0)) != 0 {
		t.Error("P502: a view shows what was committed later")
	}
	w := r.look()
	r.begin()
	r.put("a", "2")
	r.commit()
	if x, is := w.Get("a"); x != "1" || !is {
		t.Errorf("P502: %q, %t", x, is)
	}
	r.shows()
}

// TestP502Stays takes views between commits that overwrite and delete all that they show, some while a transaction is open.
func TestP502Stays(t *testing.T) {
	for _, blocks := range []int{128, 4097} {
		r := newRig(t, blocks)
		for round := range 40 {
			r.look()
			r.begin()
			for _, kv := range r.x.Scan("", "", 0) {
				if round%3 == 0 {
					r.del(kv.Key)
				} else {
					r.put(kv.Key, fmt.Sprint(round, kv.Key))
				}
			}
			r.look()
			for i := range 20 {
				r.put(text(round*i, 1+i), text(round, 40))
			}
			r.look()
			if round%5 == 4 {
				r.abort()
			} else if e := r.commit(); e != api.OK {
				t.Fatalf("P502: %d left: %v", r.s.Left(), e)
			}
			r.shows()
			for len(r.views) > 12 {
				r.close(round * 5 % len(r.views))
			}
		}
	}
}

// TestP502Closed closes views in other orders than they were taken, those of one time and of several.
func TestP502Closed(t *testing.T) {
	r := newRig(t, 256)
	for round := range 30 {
		for range 1 + round%3 {
			r.look()
		}
		if round%4 != 3 {
			r.begin()
			r.put(fmt.Sprint("k", round%5), fmt.Sprint(round))
			r.put("last", fmt.Sprint(round))
			r.commit()
		}
		for len(r.views) > round%6 {
			r.close(round * 7 % len(r.views))
			r.shows()
		}
	}
	for _, l := range r.gone {
		l.v.Close()
		l.v.Close()
	}
	r.shows()
}

// TestP502Sixteen has sixteen views at once; more show nothing, and stay so.
func TestP502Sixteen(t *testing.T) {
	for _, apart := range []bool{false, true} {
		r := newRig(t, 256)
		for i := range 16 {
			if apart || i == 0 {
				r.begin()
				r.put("a", fmt.Sprint(i))
				r.commit()
			}
			r.look()
		}
		more := r.look()
		r.shows()
		more.Close()
		more.Close()
		again := r.look()
		r.shows()
		if len(again.Scan("", "", 0)) != 0 || len(r.views) != 16 {
			t.Error("P502: a seventeenth shows something")
		}
		r.close(3)
		r.shows()
		r.look()
		r.look()
		r.shows()
		for len(r.views) > 0 {
			r.close(len(r.views) / 2)
		}
		r.shows()
		for range 18 {
			r.look()
		}
		if len(r.views) != 16 {
			t.Errorf("P502: %d views", len(r.views))
		}
		r.shows()
	}
}

// TestP502Left holds Left() against that of the same disk opened anew, where no view is: views make it less at most, and not any more when they are closed.
func TestP502Left(t *testing.T) {
	r := newRig(t, 300)
	for round := range 30 {
		r.begin()
		for i := range 12 {
			r.put(fmt.Sprint(round*i%50), text(round+i, 100))
			r.del(fmt.Sprint((round*7 + i) % 50))
		}
		r.commit()
		r.look()
		fresh := opened(t, copyOf(t, r.d)).Left()
		if left := r.s.Left(); left < 0 || left > fresh {
			t.Fatalf("P502: %d views: %d left, and %d without them", len(r.views), left, fresh)
		}
		for round%7 == 6 && len(r.views) > 0 {
			r.close(len(r.views) - 1)
		}
		if left := r.s.Left(); len(r.views) == 0 && left != fresh {
			t.Fatalf("P502: all are closed: %d left, not %d", left, fresh)
		}
	}
}

// TestP502LeftAsTold holds that a transaction that was aborted takes nothing, nor one that is over.
func TestP502LeftAsTold(t *testing.T) {
	r := newRig(t, 128)
	base := r.s.Left()
	for round := range 20 {
		r.begin()
		for i := range 30 {
			r.put(fmt.Sprint(i), text(round, 100))
		}
		r.look()
		r.abort()
		if r.s.Left() != base {
			t.Fatalf("P502: aborted: %d left, not %d", r.s.Left(), base)
		}
		r.close(0)
	}
	r.begin()
	r.put("a", "1")
	r.commit()
	if r.s.Left() >= base {
		t.Errorf("P502: a key takes no page: %d left", r.s.Left())
	}
	r.begin()
	r.del("a")
	r.commit()
	if r.s.Left() != base {
		t.Errorf("P502: no keys: %d left, not %d", r.s.Left(), base)
	}
}

// TestP502NoPower holds that a view shows what it showed, whatever becomes of the power.
func TestP502NoPower(t *testing.T) {
	r := newRig(t, 512)
	r.begin()
	for i := range 200 {
		r.put(fmt.Sprint(i), text(i, 60))
	}
	r.commit()
	r.open()
	r.look()
	r.begin()
	r.put("1", "other")
	r.look()
	kill(r.d)
	r.showsDead()
	r.d.Start()
	r.showsViews()
}

// TestP502NoPowerUnread looks at a disk whose power is gone, when a transaction has read part of it: that part is not shown for the whole.
func TestP502NoPowerUnread(t *testing.T) {
	r := newRig(t, 512)
	r.begin()
	for i := range 200 {
		r.put(fmt.Sprint(i), text(i, 60))
	}
	r.commit()
	s := opened(t, r.d)
	x, _ := s.Begin()
	x.Get("1")
	kill(r.d)
	if n := len(s.Look().Scan("", "", 0)); n != 0 && n != 200 {
		t.Errorf("P502: %d keys of 200", n)
	}
}

// TestP502OneOfTwo: a view that is closed shows nothing, though one of the same time is open.
func TestP502OneOfTwo(t *testing.T) {
	r := newRig(t, 64)
	r.begin()
	r.put("a", "1")
	r.commit()
	r.look()
	r.look()
	r.close(0)
	r.shows()
	r.begin()
	r.put("a", "2")
	r.commit()
	r.shows()
	r.close(0)
	r.shows()
}

// TestWaysOnce: what is committed is read once for all views of one time; that it is read shows in what is allocated for it.
func TestWaysOnce(t *testing.T) {
	r := newRig(t, 4097)
	r.begin()
	for i := range 2000 {
		r.put(fmt.Sprint(i), "v")
	}
	r.commit()
	lookAndClose := func() { r.s.Look().Close() }
	alone := testing.AllocsPerRun(20, lookAndClose)
	r.look()
	if beside := testing.AllocsPerRun(20, lookAndClose); beside+5 > alone {
		t.Errorf("Ways: %v allocations for a view beside another one, %v for one alone", beside, alone)
	}
}
