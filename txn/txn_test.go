package txn_test

import (
	"fmt"
	"slices"
	"strings"
	"testing"
	"unsafe"

	"toll/api"
	"toll/disk"
	"toll/tree"
	"toll/txn"
)

func TestP501Open(t *testing.T) {
	for _, blocks := range []int{1, 2, 9, 63} {
		d := newDisk(t, blocks)
		if s, e := txn.Open(d); s != nil || e != api.ErrArg {
			t.Errorf("P501: %d blocks: %v", blocks, e)
		}
		kill(d)
		if s, e := txn.Open(d); s != nil || e != api.ErrArg {
			t.Errorf("P501: %d blocks, no power: %v", blocks, e)
		}
	}
	for _, blocks := range []int{64, 65, 4097, api.MaxPages} {
		r := newRig(t, blocks)
		if r.s.Commits() != 0 || r.s.Left() < blocks-32 || r.s.Left() >= blocks {
			t.Errorf("P501: new, %d blocks: %d commits, %d left", blocks, r.s.Commits(), r.s.Left())
		}
		r.begin()
		r.put("a", "1")
		r.commit()
		r.open()
		kill(r.d)
		if s, e := txn.Open(r.d); s != nil || e != api.ErrDead {
			t.Errorf("P501: %d blocks, no power: %v", blocks, e)
		}
		r.start()
	}
}

func TestP501Begin(t *testing.T) {
	r := newRig(t, 64)
	r.begin()
	r.begin()
	r.put("a", "1")
	r.begin()
	r.abort()
	r.begin()
	r.put("a", "2")
	r.begin()
	r.shows()
	r.commit()
	r.begin()
	r.shows()
	r.begin()
	r.commit()
	r.begin()
}

func TestP501NoPower(t *testing.T) {
	for _, changed := range []bool{false, true} {
		r := newRig(t, 64)
		r.begin()
		r.put("a", "1")
		r.commit()
		r.look()
		r.begin()
		if changed {
			r.put("b", "2")
			r.del("a")
		}
		r.look()
		kill(r.d)
		r.showsDead()
		r.start()
		if len(r.done) != 1 {
			t.Errorf("P503: %q", r.done)
		}
	}
	r := newRig(t, 64)
	r.begin()
	r.put("a", "1")
	kill(r.d)
	r.abort()
	r.begin()
	r.showsDead()
	r.start()
}

// TestP501SeesItself holds what a transaction sees, and what others see meanwhile.
func TestP501SeesItself(t *testing.T) {
	r := newRig(t, 512)
	for round := range 6 {
		r.begin()
		for i := range 60 {
			n := i*17 + round*5
			r.put(fmt.Sprint(n%83), text(n, n%121))
			if i%3 == 0 {
				r.del(fmt.Sprint((n + 40) % 83))
			}
			if i%10 == 0 {
				r.shows()
			}
		}
		r.shows()
		if round%3 == 2 {
			r.abort()
		} else if e := r.commit(); e != api.OK {
			t.Fatalf("P501: %v", e)
		}
		r.shows()
		if round%2 == 0 {
			r.open()
		}
	}
}

// TestP501Errors holds the errors of Put and Del, which leave all as it was.
func TestP501Errors(t *testing.T) {
	r := newRig(t, 64)
	r.begin()
	r.put("a", "1")
	r.put(text(1, 48), text(2, 120))
	r.commit()
	r.begin()
	for _, n := range []int{0, 49, 50, 300} {
		for _, m := range []int{0, 120, 121, 700} {
			r.put(text(1, n), text(2, m))
		}
	}
	r.put("a", text(1, 121))
	r.put(text(1, 48), text(1, 5000))
	for _, key := range []string{"", "b", "a\x00", text(1, 47), text(1, 49), text(1, 4000)} {
		r.del(key)
	}
	r.shows()
	if r.changes != 0 {
		t.Fatalf("P501: %d changes", r.changes)
	}
	r.commit()
	r.shows()
	r.open()
}

// TestP501Over holds what is answered by transactions that are over, while another is open too.
func TestP501Over(t *testing.T) {
	r := newRig(t, 64)
	r.begin()
	r.put("a", "1")
	r.commit()
	r.begin()
	r.put("a", "2")
	r.abort()
	r.begin()
	r.put("a", "3")
	r.put("over", "4")
	r.showsOver()
	r.shows()
	r.commit()
	r.shows()
	if r.done["a"] != "3" || r.done["over"] != "4" {
		t.Errorf("P501: %q", r.done)
	}
	if e := r.over[0].Put("a", text(1, 121)); e != api.ErrOver {
		t.Errorf("P501: over: Put of what is too long: %v", e)
	}
}

// TestP501Commits counts commits with anything done, whatever was there, and no others.
func TestP501Commits(t *testing.T) {
	steps := []struct {
		name  string
		do    func(r *rig)
		count int
	}{
		{"nothing", func(r *rig) {}, 0},
		{"a put", func(r *rig) { r.put("a", "1") }, 1},
		{"a put of what is there", func(r *rig) { r.put("a", "1") }, 1},
		{"a get, a scan", func(r *rig) { r.x.Get("a"); r.x.Scan("", "", 0) }, 0},
		{"a delete of what is not there", func(r *rig) { r.del("b") }, 0},
		{"a put of what may not be", func(r *rig) { r.put("", "1"); r.put("a", text(1, 121)) }, 0},
		{"a put and a delete", func(r *rig) { r.put("b", "2"); r.del("b") }, 1},
		{"two puts", func(r *rig) { r.put("c", "2"); r.put("d", "") }, 1},
		{"an empty value again", func(r *rig) { r.put("d", "") }, 1},
		{"a delete and the same put", func(r *rig) { r.del("c"); r.put("c", "2") }, 1},
		{"the last deletes", func(r *rig) { r.del("a"); r.del("c"); r.del("d") }, 1},
		{"a put and a delete, where no keys are", func(r *rig) { r.put("b", "2"); r.del("b") }, 1},
		{"nothing, where no keys are", func(r *rig) {}, 0},
	}
	for _, again := range []bool{false, true} {
		r := newRig(t, 64)
		for _, step := range steps {
			was := r.s.Commits()
			r.begin()
			step.do(r)
			if n := r.s.Commits(); n != was {
				t.Errorf("P501: %s: %d commits, not %d, ahead of Commit", step.name, n, was)
			}
			r.abort()
			r.begin()
			step.do(r)
			r.commit()
			if n := r.s.Commits() - was; n != step.count {
				t.Errorf("P501: %s: counts %d, not %d", step.name, n, step.count)
			}
			if again {
				r.open()
			}
		}
		r.open()
	}
}

// filled is a store with so little left that a great transaction has no room.
func filled(t *testing.T, blocks int) *rig {
	t.Helper()
	r := newRig(t, blocks)
	for i := 0; r.s.Left() > 16; i++ {
		r.begin()
		r.put(fmt.Sprintf("%05d", i), text(i, 120))
		if e := r.commit(); e != api.OK {
			t.Fatalf("P501: %d left: %v", r.s.Left(), e)
		}
	}
	return r
}

// TestP501Full has a Commit for which there is too little room: it is over, and nothing is done.
func TestP501Full(t *testing.T) {
	r := filled(t, 128)
	for round := range 20 {
		left := r.s.Left()
		r.begin()
		e := api.OK
		for i := 0; i < 200 && e == api.OK; i++ {
			e = r.put(fmt.Sprint("x", round, "-", i), text(i, 100))
		}
		r.shows()
		if f := r.commit(); f != api.ErrDiskFull {
			t.Fatalf("P501: Commit, %d left, Put %v: %v", left, e, f)
		}
		if r.s.Left() != left {
			t.Fatalf("P501: %d left, and %d ahead of a Commit that was answered ErrDiskFull", r.s.Left(), left)
		}
		r.shows()
		r.begin()
		r.put("small", fmt.Sprint(round))
		if f := r.commit(); f != api.OK {
			t.Fatalf("P501: Commit of little, %d left: %v", left, f)
		}
		r.shows()
	}
	r.open()
	r.begin()
	for _, kv := range r.x.Scan("", "", 0) {
		r.del(kv.Key)
	}
	if e := r.commit(); e != api.OK || r.s.Left() != newRig(t, 128).s.Left() {
		t.Errorf("P501: all deleted: %v, %d left", e, r.s.Left())
	}
}

// TestP501FullPut goes on behind a Put that was answered ErrDiskFull: the transaction can't be committed any more, though deletes made room.
func TestP501FullPut(t *testing.T) {
	r := filled(t, 128)
	r.begin()
	e := api.OK
	n := 0
	for ; n < 400 && e == api.OK; n++ {
		e = r.put(fmt.Sprint("x", n), text(n, 100))
	}
	if e != api.ErrDiskFull {
		t.Skip("P401: Put need not be answered ErrDiskFull")
	}
	r.shows()
	for i := range n - 1 {
		r.del(fmt.Sprint("x", i))
	}
	r.shows()
	if e := r.commit(); e != api.ErrDiskFull {
		t.Errorf("P501: Commit: %v", e)
	}
	r.shows()
	r.begin()
	for i := range 300 {
		e = r.put(fmt.Sprint("x", i), text(i, 100))
	}
	kill(r.d)
	if e := r.x.Commit(); e != api.ErrDead {
		t.Errorf("P501: Commit without power: %v", e)
	}
	r.start()
}

// TestP501Exact holds that a Commit has room just where Left() pages are enough for it, with views open and without.
func TestP501Exact(t *testing.T) {
	for _, views := range []int{0, 5} {
		r := filled(t, 96)
		fit, full, late := 0, 0, 0
		for n := range 60 {
			for range views - len(r.views) {
				r.look()
			}
			change := func(put func(key, value string) api.Errno) {
				for i := range n {
					put(fmt.Sprintf("%05d", i*3), text(n, 120-i%7))
				}
			}
			pages := need(t, r.d, func(x *tree.Tree) { change(x.Put) })
			left := r.s.Left()
			r.begin()
			change(r.put)
			e := r.commit()
			switch {
			case (pages <= left) != (e == api.OK):
				t.Fatalf("P502: %d views: %d pages, %d left: %v", views, pages, left, e)
			case e == api.OK:
				fit++
			case r.full:
				full++
			default:
				late++
			}
			r.shows()
			if len(r.views) > 0 {
				r.close(n % len(r.views))
			}
		}
		if fit < 5 || full+late < 5 || late < 1 {
			t.Fatalf("%d fit, %d were full by a Put, %d by the Commit alone", fit, full, late)
		}
	}
}

func TestP2HandedInIsNotKept(t *testing.T) {
	r := newRig(t, 128)
	for i := range 60 {
		if i%20 == 0 {
			r.begin()
		}
		key, value := []byte(fmt.Sprintf("%02d", i*37%60)), []byte(text(i, 50))
		k, v := string(key), string(value)
		inKey, inValue := unsafe.String(&key[0], len(key)), unsafe.String(&value[0], len(value))
		if i%3 == 0 && (r.x.Put(inKey, "other") != api.OK || r.x.Del(inKey) != api.OK) {
			t.Fatal("P501")
		}
		if r.x.Put(inKey, inValue) != api.OK {
			t.Fatal("P501: Put")
		}
		r.now[k] = v
		r.changes++
		r.x.Get(inKey)
		r.x.Scan(inKey, inKey, 0)
		seen := r.look()
		seen.Get(inKey)
		seen.Scan(inKey, inKey, 0)
		if string(key) != k || string(value) != v {
			t.Error("P2: what was handed in was changed")
		}
		clear(key)
		clear(value)
		r.shows()
		if i%20 == 19 {
			r.commit()
			r.shows()
		}
		r.close(0)
	}
	r.open()
}

// TestP2DelIsNotKept deletes by a key whose memory is used anew: what was committed is still shown to those who look.
func TestP2DelIsNotKept(t *testing.T) {
	r := newRig(t, 64)
	r.begin()
	for i := range 20 {
		r.put(fmt.Sprint("key", i), text(i, 20))
	}
	r.commit()
	r.begin()
	key := []byte("key11")
	if r.x.Del(unsafe.String(&key[0], len(key))) != api.OK {
		t.Fatal("P501: Del")
	}
	copy(key, "key12")
	delete(r.now, "key11")
	r.changes++
	r.shows()
	r.commit()
	r.shows()
}

func TestP2AnswersAreNew(t *testing.T) {
	r := newRig(t, 128)
	for round := range 3 {
		r.begin()
		for i := range 30 {
			r.put(fmt.Sprint(i), fmt.Sprint("v", round))
		}
		v := r.look()
		for _, x := range []reader{r.x, v} {
			for _, limit := range []int{0, 1, 7, 30} {
				a, b := x.Scan("", "", limit), x.Scan("", "", limit)
				want := slices.Clone(b)
				spoil(a)
				if !slices.Equal(b, want) {
					t.Error("P2: two answers share memory")
				}
				r.shows()
			}
		}
		mine, seen := r.x.Scan("", "", 0), v.Scan("", "", 0)
		was, saw := slices.Clone(mine), slices.Clone(seen)
		r.put("0", "other")
		r.del("1")
		r.commit()
		v.Close()
		r.begin()
		r.put("2", "other")
		r.commit()
		if !slices.Equal(mine, was) || !slices.Equal(seen, saw) {
			t.Error("P2: an answer was changed")
		}
		r.open()
	}
}

func TestP3Same(t *testing.T) {
	run := func() string {
		r := newRig(t, 300)
		told := &strings.Builder{}
		for i := range 40 {
			r.begin()
			for j := range i % 9 {
				r.put(text(i*j%83, 1+i), text(i, i))
				r.del(text(i*7%83, 1+j))
			}
			v := r.s.Look()
			fmt.Fprintln(told, r.x.Scan("", "", 0), v.Scan("", "", 0), r.s.Left(), r.s.Commits(), r.d.Writes())
			v.Close()
			if i%5 == 3 {
				r.abort()
			} else {
				r.commit()
			}
		}
		return told.String()
	}
	if a, b := run(), run(); a != b {
		t.Errorf("P3: %s, and then %s", a, b)
	}
}

func TestP7TwoStores(t *testing.T) {
	a, b := newRig(t, 64), newRig(t, 64)
	for i := range 20 {
		for _, r := range []*rig{a, b} {
			r.begin()
			if i%3 == 0 {
				r.look()
			}
		}
		a.put(fmt.Sprint(i), "a")
		b.put(fmt.Sprint(i%7), "b")
		a.commit()
		b.shows()
		a.shows()
		b.abort()
	}
	a.begin()
	b.begin()
	if a.x == b.x {
		t.Error("P7")
	}
	a.open()
	b.open()
	if len(a.done) != 20 || len(b.done) != 0 {
		t.Errorf("P7: %d, %d", len(a.done), len(b.done))
	}
}

// TestP1OddDisks opens what no store wrote: no promise but P1 is kept.
func TestP1OddDisks(t *testing.T) {
	for seed := range 30 {
		r := newRig(t, 80)
		for i := range 3 {
			r.begin()
			for j := range 40 {
				r.put(fmt.Sprint(i*j), text(j, 60))
			}
			r.commit()
		}
		for i := range 1 + seed%7 {
			r.d.Write((seed*13+i*7)%80, []byte(text(seed+i, api.Block)))
		}
		useOdd(r.d)
	}
}

func useOdd(d *disk.Disk) {
	s, e := txn.Open(d)
	if e != api.OK {
		return
	}
	for i := range 10 {
		v := s.Look()
		x, e := s.Begin()
		if e != api.OK {
			return
		}
		for j := range 10 {
			x.Put(fmt.Sprint(i*j), text(j, 100))
			x.Del(fmt.Sprint(i + j))
			x.Get(fmt.Sprint(j))
		}
		x.Scan("", "", 0)
		s.Look().Scan("", "", i)
		s.Left()
		s.Commits()
		x.Commit()
		v.Get("1")
		v.Close()
	}
}
