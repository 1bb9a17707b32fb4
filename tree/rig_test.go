package tree_test

import (
	"maps"
	"math/bits"
	"slices"
	"strings"
	"testing"

	"toll/api"
	"toll/disk"
	"toll/pager"
	"toll/tree"
)

// text is n bytes, other ones for each seed.
func text(seed, n int) string {
	b := make([]byte, n)
	x := uint32(seed)*2654435761 + 12345
	for i := range b {
		x = x*1664525 + 1013904223
		b[i] = byte(x >> 24)
	}
	return string(b)
}

func newDisk(t *testing.T, blocks int) *disk.Disk {
	t.Helper()
	d, e := disk.New(blocks)
	if e != api.OK {
		t.Fatalf("P201: New(%d): %v", blocks, e)
	}
	return d
}

func opened(t *testing.T, d *disk.Disk) (*pager.Pager, *tree.Tree) {
	t.Helper()
	p, e := pager.Open(d)
	if e != api.OK {
		t.Fatalf("P301: Open: %v", e)
	}
	x, e := tree.Open(p)
	if e != api.OK || x == nil {
		t.Fatalf("P401: Open: %v", e)
	}
	return p, x
}

// rig has a tree, and beside it a plain map with what it must show.
type rig struct {
	t       *testing.T
	d       *disk.Disk
	p       *pager.Pager
	x       *tree.Tree
	base    int               // pages that are left where there are no keys
	extra   int               // blocks that a Commit of no pages writes
	done    map[string]string // by the last Commit that was answered OK
	half    map[string]string // what a Commit that was cut off was to make
	now     map[string]string
	changes map[string]int // keys that were put or deleted since the last Commit
	top     int            // the greatest Height() since
	wrote   int            // blocks, till then
}

func newRig(t *testing.T, blocks int) *rig {
	t.Helper()
	r := &rig{t: t, d: newDisk(t, blocks), done: map[string]string{}, now: map[string]string{}, changes: map[string]int{}}
	r.p, r.x = opened(t, r.d)
	r.base = r.x.Left()
	r.extra = commitWrites(t, blocks)
	if r.base != r.p.Left() {
		t.Fatalf("P402: Left of a new tree: %d, of its pager: %d", r.base, r.p.Left())
	}
	r.shows()
	return r
}

func commitWrites(t *testing.T, blocks int) int {
	t.Helper()
	d := newDisk(t, blocks)
	p, e := pager.Open(d)
	before := d.Writes()
	if e != api.OK || p.Commit(nil) != api.OK {
		t.Fatalf("P303: %v", e)
	}
	return d.Writes() - before
}

// put answers the error; the map has the key only where that is OK.
func (r *rig) put(key, value string) api.Errno {
	r.t.Helper()
	left, high, dead := r.x.Left(), r.x.Height(), r.d.Dead()
	e := r.x.Put(key, value)
	want := api.OK
	switch {
	case dead:
		want = api.ErrDead
	case len(key) < 1 || len(key) > 48:
		want = api.ErrArg
	case len(value) > 120:
		want = api.ErrLong
	}
	if e == api.ErrDiskFull && want == api.OK {
		r.mayBeFull("P401: Put", left, high)
		return e
	}
	if e != want {
		r.t.Fatalf("P401: Put of %d and %d bytes, %d left: %v, not %v", len(key), len(value), left, e, want)
	}
	if e == api.OK {
		r.now[key] = value
		r.changes[key]++
	}
	r.isSound()
	return e
}

func (r *rig) del(key string) api.Errno {
	r.t.Helper()
	left, high, dead := r.x.Left(), r.x.Height(), r.d.Dead()
	e := r.x.Del(key)
	_, is := r.now[key]
	want := api.OK
	switch {
	case dead:
		want = api.ErrDead
	case !is:
		want = api.ErrNone
	}
	if e == api.ErrDiskFull && want == api.OK {
		r.mayBeFull("P401: Del", left, high)
		return e
	}
	if e != want {
		r.t.Fatalf("P401: Del(%q), there: %t, %d left: %v, not %v", key, is, left, e, want)
	}
	if e == api.OK {
		delete(r.now, key)
		r.changes[key]++
	}
	r.isSound()
	return e
}

func (r *rig) mayBeFull(what string, left, high int) {
	r.t.Helper()
	if left >= 2*(1+high)+1 {
		r.t.Fatalf("%s: ErrDiskFull, with %d left, %d high", what, left, high)
	}
}

// isSound holds what a tree with power tells of itself against the map and the bounds.
func (r *rig) isSound() {
	r.t.Helper()
	if r.d.Dead() {
		return
	}
	n, high := r.x.Len(), r.x.Height()
	r.top = max(r.top, high)
	if n != len(r.now) {
		r.t.Fatalf("P401: Len %d, not %d", n, len(r.now))
	}
	if (high == 0) != (n == 0) || high > bits.Len(uint(n+1)) {
		r.t.Fatalf("P403: %d keys, %d high", n, high)
	}
	pages := r.p.Left() - r.x.Left()
	if pages < 0 || pages > 2*(1+r.top)*len(r.changes)+1 {
		r.t.Fatalf("P403: %d pages for %d changes, %d high", pages, len(r.changes), r.top)
	}
}

func (r *rig) commit() api.Errno {
	r.t.Helper()
	left, pages, dead := r.x.Left(), r.p.Left()-r.x.Left(), r.d.Dead()
	before, seq := r.d.Writes(), r.p.Seq()
	e := r.x.Commit()
	wrote := r.d.Writes() - before
	want := api.OK
	switch {
	case dead || r.d.Dead():
		want = api.ErrDead
	case left < 0:
		want = api.ErrDiskFull
	}
	if e != want {
		r.t.Fatalf("P402: Commit, %d left: %v, not %v", left, e, want)
	}
	switch {
	case e == api.OK && len(r.changes) == 0 && (wrote != 0 || r.p.Seq() != seq):
		r.t.Fatalf("P402: Commit of nothing: %d writes", wrote)
	case e == api.OK && len(r.changes) > 0 && (wrote != pages+r.extra || r.p.Seq() != seq+1):
		r.t.Fatalf("P402: Commit: %d writes, and %d of them the pager's, %d pages were told; Seq %d, then %d", wrote, r.extra, pages, seq, r.p.Seq())
	case e == api.OK:
		r.takesFew()
		r.done = maps.Clone(r.now)
	case e == api.ErrDead && !dead:
		r.half = maps.Clone(r.now)
	}
	return e
}

// takesFew holds what was written since the last Commit, and what the tree takes behind it, against P403.
func (r *rig) takesFew() {
	r.t.Helper()
	if n := r.d.Writes() - r.wrote; n > 2*(1+r.top)*len(r.changes)+1+r.extra {
		r.t.Fatalf("P403: %d writes for %d changes, %d high", n, len(r.changes), r.top)
	}
	if taken := r.base - r.p.Left(); taken > 2*len(r.now)+8 || taken < r.x.Height() || r.x.Left() != r.p.Left() {
		r.t.Fatalf("P403: %d keys take %d pages, %d high, %d and %d left", len(r.now), taken, r.x.Height(), r.p.Left(), r.x.Left())
	}
	if len(r.now) == 0 && r.p.Left() != r.base {
		r.t.Fatalf("P403: no keys take %d pages", r.base-r.p.Left())
	}
	r.changes, r.top, r.wrote = map[string]int{}, r.x.Height(), r.d.Writes()
}

func (r *rig) abort() {
	r.t.Helper()
	r.x.Abort()
	r.now = maps.Clone(r.done)
	r.changes, r.top = map[string]int{}, r.x.Height()
	r.isSound()
	if !r.d.Dead() && r.x.Left() != r.p.Left() {
		r.t.Fatalf("P402: behind Abort %d are left, not %d", r.x.Left(), r.p.Left())
	}
}

// shows holds all that the tree shows against the map.
func (r *rig) shows() {
	r.t.Helper()
	r.isSound()
	all := sorted(r.now)
	r.scansOf(all, "", "", 0)
	r.scansOf(all, "", "", len(all))
	for i, kv := range all {
		if v, is := r.x.Get(kv.Key); !is || v != kv.Value {
			r.t.Fatalf("P401: Get(%q): %q, %t, not %q", kv.Key, v, is, kv.Value)
		}
		r.gets(kv.Key + "\x00")
		r.gets(kv.Key[:len(kv.Key)-1])
		if i%7 == 0 {
			r.scansOf(all, kv.Key, "", 3)
			r.scansOf(all, kv.Key+"\x00", all[min(i*5%50+i, len(all)-1)].Key, -1)
		}
	}
	r.gets("")
	r.gets(strings.Repeat("\xff", 60))
}

// gets asks for a key that may be there, or not.
func (r *rig) gets(key string) {
	r.t.Helper()
	want, there := r.now[key]
	if v, is := r.x.Get(key); is != there || v != want {
		r.t.Fatalf("P401: Get(%q): %q, %t, not %q, %t", key, v, is, want, there)
	}
}

func sorted(m map[string]string) []api.KV {
	var all []api.KV
	for _, k := range slices.Sorted(maps.Keys(m)) {
		all = append(all, api.KV{Key: k, Value: m[k]})
	}
	return all
}

// plainScan is Scan of all that there is.
func plainScan(all []api.KV, lo, hi string, limit int) []api.KV {
	isBehind := func(kv api.KV, key string) int { return strings.Compare(kv.Key, key) }
	from, _ := slices.BinarySearchFunc(all, lo, isBehind)
	to := len(all)
	if hi != "" {
		to, _ = slices.BinarySearchFunc(all, hi, isBehind)
	}
	to = max(from, to)
	if limit >= 1 {
		to = from + min(limit, to-from)
	}
	return all[from:to]
}

func (r *rig) scans(lo, hi string, limit int) {
	r.t.Helper()
	r.scansOf(sorted(r.now), lo, hi, limit)
}

// scansOf takes what the map has, in order, so that it need not be sorted for each scan.
func (r *rig) scansOf(all []api.KV, lo, hi string, limit int) {
	r.t.Helper()
	got, want := r.x.Scan(lo, hi, limit), plainScan(all, lo, hi, limit)
	if !slices.Equal(got, want) {
		r.t.Fatalf("P401: Scan(%q, %q, %d): %q, not %q", lo, hi, limit, got, want)
	}
	spoil(got)
}

// spoil writes over a list and its spare room, so that one who has it too shows it.
func spoil(l []api.KV) {
	for i := range l[:cap(l)] {
		l[:cap(l)][i] = api.KV{Key: "spoilt", Value: "spoilt"}
	}
}

// open opens the disk again, and holds it against the last Commit, or the one that was cut off.
func (r *rig) open() {
	r.t.Helper()
	r.p, r.x = opened(r.t, r.d)
	if r.half != nil && slices.Equal(r.x.Scan("", "", 0), sorted(r.half)) {
		r.done = r.half
	}
	r.half = nil
	r.now = maps.Clone(r.done)
	r.changes, r.top, r.wrote = map[string]int{}, r.x.Height(), r.d.Writes()
	r.shows()
	if taken := r.base - r.x.Left(); taken > 2*len(r.now)+8 {
		r.t.Fatalf("P403: opened: %d keys take %d pages", len(r.now), taken)
	}
}

// start brings the power again and opens the disk.
func (r *rig) start() {
	r.t.Helper()
	r.d.Start()
	r.open()
}

// showsDead holds that a tree whose power went answers ErrDead and nothing else.
func (r *rig) showsDead() {
	r.t.Helper()
	for _, key := range []string{"", "a", r.anyKey(), text(1, 48), text(1, 49)} {
		for _, n := range []int{0, 1, 120, 121} {
			if e := r.x.Put(key, text(2, n)); e != api.ErrDead {
				r.t.Fatalf("P402: dead: Put of %d and %d bytes: %v", len(key), n, e)
			}
		}
		if e := r.x.Del(key); e != api.ErrDead {
			r.t.Fatalf("P402: dead: Del of %d bytes: %v", len(key), e)
		}
		r.x.Get(key)
		r.x.Scan(key, "", 0)
	}
	if e := r.x.Commit(); e != api.ErrDead {
		r.t.Fatalf("P402: dead: Commit: %v", e)
	}
	r.x.Abort()
	r.x.Len()
	r.x.Height()
	r.x.Left()
	if e := r.x.Commit(); e != api.ErrDead {
		r.t.Fatalf("P402: dead: Commit of nothing: %v", e)
	}
	if x, e := tree.Open(r.p); x != nil || e != api.ErrDead {
		r.t.Fatalf("P401: dead: Open: %v", e)
	}
}

// anyKey is a key that is there, or none.
func (r *rig) anyKey() string {
	best := ""
	for k := range r.now {
		best = max(best, k)
	}
	return best
}
