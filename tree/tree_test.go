package tree_test

import (
	"fmt"
	"math"
	"slices"
	"strings"
	"testing"
	"unsafe"

	"toll/api"
	"toll/pager"
	"toll/tree"
)

func TestP401New(t *testing.T) {
	for _, blocks := range []int{64, 65, 4097, api.MaxPages} {
		r := newRig(t, blocks)
		for _, key := range []string{"", "a", text(1, 48), text(1, 49)} {
			r.gets(key)
			r.del(key)
			r.scans(key, "", 0)
			r.scans("", key, 1)
		}
		if r.x.Len() != 0 || r.x.Height() != 0 {
			t.Errorf("P403: a new tree: %d keys, %d high", r.x.Len(), r.x.Height())
		}
		r.open()
	}
}

func TestP401NoPower(t *testing.T) {
	for _, keys := range []int{0, 1, 40} {
		r := newRig(t, 128)
		for i := range keys {
			r.put(fmt.Sprint(i), "v")
		}
		r.commit()
		p, _ := opened(t, r.d)
		r.d.Cut(0)
		if e := r.d.Write(r.d.Blocks()-1, make([]byte, api.Block)); e != api.ErrDead {
			t.Fatalf("P202: %v", e)
		}
		if x, e := tree.Open(p); x != nil || e != api.ErrDead {
			t.Errorf("P401: Open without power: %v", e)
		}
		r.showsDead()
	}
}

// A tree that was opened when the power was there, and has read nothing yet.
func TestP402NoPowerUnread(t *testing.T) {
	for first := range 6 {
		r := newRig(t, 128)
		for i := range 40 {
			r.put(fmt.Sprint(i), text(i, 100))
		}
		r.commit()
		r.open()
		_, r.x = opened(t, r.d)
		r.d.Cut(0)
		r.d.Write(0, make([]byte, api.Block))
		switch first {
		case 0:
			r.x.Get("1")
		case 1:
			r.x.Scan("", "", 0)
		case 2:
			r.x.Left()
		case 3:
			r.x.Abort()
		}
		r.showsDead()
	}
}

func TestP401Lengths(t *testing.T) {
	r := newRig(t, 200)
	for _, k := range []int{0, 1, 2, 47, 48, 49, 50, 255, 256, 257, 304, 70000} {
		for _, v := range []int{0, 1, 119, 120, 121, 122, 255, 256, 257, 376, 70000} {
			key := strings.Repeat("k", k)
			e := r.put(key, text(k+v, v))
			want := api.OK
			if k < 1 || k > 48 {
				want = api.ErrArg
			} else if v > 120 {
				want = api.ErrLong
			}
			if e != want {
				t.Errorf("P401: Put of %d and %d bytes: %v", k, v, e)
			}
			r.gets(key)
		}
	}
	r.shows()
	r.commit()
	r.open()
	for i := range 20 {
		r.put(text(i, 48), text(-i, 120))
	}
	for i := range 20 {
		r.put(string([]byte{byte(i * 13)}), "")
	}
	r.commit()
	r.open()
	for k := range r.now {
		r.del(k)
	}
	r.commit()
	r.open()
}

// What may not be put leaves all as it was.
func TestP5Wrong(t *testing.T) {
	r := newRig(t, 64)
	for _, committed := range []bool{false, true} {
		left, wrote := r.x.Left(), r.d.Writes()
		r.put("", "v")
		r.put(text(1, 49), "v")
		r.put("a", text(1, 121))
		r.del("")
		r.del("nobody")
		r.del(text(1, 49))
		if r.x.Left() != left || r.d.Writes() != wrote {
			t.Errorf("P5: committed %t: %d left, not %d", committed, r.x.Left(), left)
		}
		r.commit() // of nothing, or of what is behind
		r.shows()
		r.put("a", "1")
		r.put("b", "2")
		r.commit()
	}
}

func TestP401PutAgain(t *testing.T) {
	r := newRig(t, 64)
	for round := range 3 {
		for _, v := range []string{"1", "2", "2", "", text(1, 120), "3"} {
			r.put("a", v)
			r.put("b"+v[:min(1, len(v))], "x")
			r.shows()
		}
		if r.del("a") != api.OK || r.del("a") != api.ErrNone || r.del("a") != api.ErrNone {
			t.Errorf("P401: Del")
		}
		r.shows()
		if round == 1 {
			r.commit()
			r.open()
		}
		if r.del("a") != api.ErrNone {
			t.Errorf("P401: Del")
		}
		r.put("a", "again")
		r.shows()
		r.commit()
		r.open()
	}
}

func TestP9Order(t *testing.T) {
	r := newRig(t, 128)
	keys := []string{"\x00", "\x00\x00", "\x00\xff", "\x01", "A", "Z", "a", "aa", "a\x00", "b", "ä", "\x7f", "\x80", "\xc3", "\xff", "\xff\xff", "\xff\x00", strings.Repeat("\xff", 48), strings.Repeat("\x00", 48)}
	for _, k := range keys {
		r.put(k, text(len(k), 90))
		r.shows()
	}
	slices.Sort(keys)
	for i, kv := range r.x.Scan("", "", 0) {
		if kv.Key != keys[i] {
			t.Errorf("P9: %q, not %q", kv.Key, keys[i])
		}
	}
	r.commit()
	r.open()
}

func TestP401Scan(t *testing.T) {
	for _, n := range []int{0, 1, 2, 3, 40, 700} {
		r := newRig(t, 3000)
		for i := range n {
			r.put(fmt.Sprintf("%04d", i*7%701*2), text(i, i%121))
		}
		limits := []int{math.MinInt, -1, 0, 1, 2, 5, n - 1, n, n + 1, math.MaxInt}
		bounds := []string{"", "0", "0000", "0000\x00", "0001", "0002", "0500", "0501", "0699\xff", "0700", "1398", "1400", "2", "\xff", text(3, 100)}
		for _, reopened := range []bool{false, true} {
			all := sorted(r.now)
			for _, lo := range bounds {
				for _, hi := range bounds {
					for _, limit := range limits {
						r.scansOf(all, lo, hi, limit)
					}
				}
			}
			if !reopened {
				r.commit()
				r.open()
			}
		}
		r.scansOn(1)
		r.scansOn(3)
	}
}

// scansOn goes through all keys scan by scan, each from behind the last key.
func (r *rig) scansOn(limit int) {
	r.t.Helper()
	var all []api.KV
	lo := ""
	for {
		l := r.x.Scan(lo, "", limit)
		all = append(all, l...)
		if len(l) < limit {
			break
		}
		lo = l[limit-1].Key + "\x00"
	}
	if !slices.Equal(all, sorted(r.now)) {
		r.t.Fatalf("P401: scan by scan: %d keys, not %d", len(all), len(r.now))
	}
}

func TestP402Example(t *testing.T) {
	_, x := opened(t, newDisk(t, 64))
	if x.Put("a", "1") != api.OK || x.Commit() != api.OK || x.Put("a", "2") != api.OK {
		t.Fatal("P402")
	}
	if v, _ := x.Get("a"); v != "2" {
		t.Errorf("P401: %q ahead of Abort", v)
	}
	x.Abort()
	if v, is := x.Get("a"); v != "1" || !is {
		t.Errorf("P402: %q behind Abort", v)
	}
}

func TestP402Nothing(t *testing.T) {
	r := newRig(t, 64)
	r.commit()
	r.abort()
	r.commit()
	r.put("a", "1")
	r.abort()
	r.commit()
	r.put("a", "1")
	r.commit()
	r.commit()
	r.open()
	r.commit()
	r.del("a")
	r.abort()
	r.commit()
	r.del("b")
	r.put("", "")
	r.commit()
	r.shows()
}

// What was done counts, even where all is as it was: the pager has one Commit more.
func TestP402AsItWas(t *testing.T) {
	r := newRig(t, 64)
	r.put("a", "1")
	r.del("a")
	r.commit()
	r.put("a", "1")
	r.commit()
	r.put("a", "1")
	if r.x.Left() != r.p.Left() {
		t.Errorf("P402: a value that is there already: %d pages", r.p.Left()-r.x.Left())
	}
	r.commit()
	r.put("b", "2")
	r.del("b")
	r.commit()
	r.del("a")
	r.put("a", "1")
	r.commit()
	if r.p.Seq() != 5 {
		t.Errorf("P402: Seq %d, not 5", r.p.Seq())
	}
	r.open()
}

func TestP402Abort(t *testing.T) {
	r := newRig(t, 2000)
	for round := range 30 {
		for i := range round * 5 {
			r.put(fmt.Sprint("k", (i*i+round)%97), text(i+round, (i*7+round)%121))
			if i%3 == 0 {
				r.del(fmt.Sprint("k", i%97))
			}
		}
		if round%3 == 2 {
			r.commit()
		} else {
			r.abort()
		}
		r.shows()
		if round%7 == 0 {
			r.open()
		}
	}
}

// What was not committed is not there when it is opened again, and takes no pages.
func TestP402Uncommitted(t *testing.T) {
	r := newRig(t, 200)
	for i := range 50 {
		r.put(fmt.Sprint(i), text(i, 60))
	}
	r.commit()
	left := r.x.Left()
	for i := range 50 {
		r.put(fmt.Sprint("more", i), text(i, 60))
		r.del(fmt.Sprint(i))
	}
	r.open()
	if r.x.Left() != left {
		t.Errorf("P402: opened again: %d left, not %d", r.x.Left(), left)
	}
}

// The same pager, opened again: the tree that is committed.
func TestP401SamePager(t *testing.T) {
	r := newRig(t, 64)
	r.put("a", "1")
	r.commit()
	r.put("a", "2")
	r.put("b", "2")
	x, e := tree.Open(r.p)
	if v, _ := x.Get("a"); e != api.OK || v != "1" || x.Len() != 1 || x.Left() != r.p.Left() {
		t.Errorf("P401: %v, %q, %d keys", e, v, x.Len())
	}
}

func TestP2HandedInIsNotKept(t *testing.T) {
	r := newRig(t, 128)
	for i := range 60 {
		key, value := []byte(fmt.Sprintf("%02d", i*37%60)), []byte(text(i, 50))
		k, v := string(key), string(value)
		if r.x.Put(unsafe.String(&key[0], len(key)), unsafe.String(&value[0], len(value))) != api.OK {
			t.Fatal("P401: Put")
		}
		if string(key) != k || string(value) != v {
			t.Error("P2: what was handed in was changed")
		}
		clear(key)
		clear(value)
		r.now[k] = v
		r.changes[k]++
		r.isSound()
	}
	r.shows()
	r.commit()
	r.shows()
	r.open()
}

func TestP2ScansAreNew(t *testing.T) {
	r := newRig(t, 128)
	for i := range 30 {
		r.put(fmt.Sprint(i), "v")
	}
	for _, committed := range []bool{false, true} {
		for _, limit := range []int{0, 1, 7, 30} {
			a, b := r.x.Scan("", "", limit), r.x.Scan("", "", limit)
			want := plainScan(sorted(r.now), "", "", limit)
			spoil(a)
			if !slices.Equal(b, want) {
				t.Errorf("P2: committed %t: two answers share memory", committed)
			}
			r.shows()
			kept := r.x.Scan("", "", limit)
			r.put("0", "other")
			r.del("1")
			if !slices.Equal(kept, want) {
				t.Errorf("P2: committed %t: an answer was changed", committed)
			}
			r.put("0", "v")
			r.put("1", "v")
		}
		r.commit()
	}
}

func TestP3Same(t *testing.T) {
	run := func() string {
		r := newRig(t, 300)
		told := ""
		for i := range 300 {
			r.put(text(i*i%83, 1+i%48), text(i, i%121))
			r.del(text(i*7%83, 1+i%48))
			told += fmt.Sprint(r.x.Len(), r.x.Height(), r.x.Left(), r.d.Writes(), " ")
			if i%19 == 0 {
				r.commit()
			}
		}
		return told
	}
	if a, b := run(), run(); a != b {
		t.Errorf("P3: %s, and then %s", a, b)
	}
}

func TestP7TwoTrees(t *testing.T) {
	a, b := newRig(t, 128), newRig(t, 128)
	for i := range 60 {
		a.put(fmt.Sprint(i), "a")
		b.put(fmt.Sprint(i*7), text(i, 30))
		if i%9 == 0 {
			a.commit()
			b.abort()
		}
	}
	b.d.Cut(0)
	b.commit()
	a.shows()
	a.commit()
	a.open()
	b.start()
}

// A node is decoded once, and not ahead of being asked.
func TestWaysOnce(t *testing.T) {
	r := newRig(t, 512)
	for i := range 300 {
		r.put(fmt.Sprintf("%03d", i), text(i, 40))
	}
	r.commit()
	_, x := opened(t, r.d)
	r.open()
	for n := range r.d.Blocks() {
		r.d.Write(n, make([]byte, api.Block))
	}
	r.shows()
	if l := x.Scan("", "", 0); len(l) != 0 {
		t.Errorf("ways: %d keys were read ahead of being asked", len(l))
	}
}

// No promise but P1 is kept of a pager that others used.
func TestP1OddPagers(t *testing.T) {
	for seed := range 400 {
		p, e := pager.Open(newDisk(t, 64))
		if e != api.OK {
			t.Fatalf("P301: %v", e)
		}
		var pages []int
		for i := range 12 {
			b := []byte(text(seed*12+i, (seed*31+i*57)%497))
			if len(b) > 0 {
				b[0] = byte(1 + (i+seed)%4)
			}
			for j := 1; j+4 < len(b); j += 5 + seed%3 {
				copy(b[j:], []byte{byte(seed % 3), 0, 0, 0})
			}
			n, _ := p.Alloc(b)
			pages = append(pages, n)
		}
		root := []byte{0, 0, 0, byte(pages[seed%12]), byte(seed % 6), 0, 0, byte(seed), 9}
		if seed%10 == 0 {
			root = []byte(text(seed, seed%65))
		}
		p.Commit(root)
		useOdd(t, p, seed)
	}
}

func useOdd(t *testing.T, p *pager.Pager, seed int) {
	t.Helper()
	x, e := tree.Open(p)
	if e != api.OK || x == nil {
		t.Fatalf("P401: %v", e)
	}
	for i := range 40 {
		key := text(i*seed, 1+i)
		x.Get(key)
		x.Scan(key, "", 5)
		x.Put(key, text(i, 100))
		x.Del(text(i*seed/2, 1+i/2))
		x.Len()
		x.Height()
		x.Left()
		if i%9 == 0 {
			x.Commit()
		}
	}
	for _, kv := range x.Scan("", "", 300) {
		x.Del(kv.Key)
	}
	x.Commit()
	x.Abort()
	x.Scan("", "", 0)
}
