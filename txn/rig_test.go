package txn_test

import (
	"fmt"
	"maps"
	"math"
	"slices"
	"strings"
	"testing"

	"toll/api"
	"toll/disk"
	"toll/pager"
	"toll/tree"
	"toll/txn"
)

// text is n bytes, other ones for each seed.
func text(seed, n int) string {
	b := make([]byte, n)
	x := uint32(seed)*2654435761 + 12345
	for i := range b {
		x = x*1664525 + 1013904223
		b[i] = byte(x >> 24)
	}
	return string(b)
}

func newDisk(t *testing.T, blocks int) *disk.Disk {
	t.Helper()
	d, e := disk.New(blocks)
	if e != api.OK {
		t.Fatalf("P201: New(%d): %v", blocks, e)
	}
	return d
}

func opened(t *testing.T, d *disk.Disk) *txn.Store {
	t.Helper()
	s, e := txn.Open(d)
	if e != api.OK || s == nil {
		t.Fatalf("P501: Open: %v", e)
	}
	return s
}

// copyOf is another disk with the same blocks.
func copyOf(t *testing.T, d *disk.Disk) *disk.Disk {
	t.Helper()
	other := newDisk(t, d.Blocks())
	for n := range d.Blocks() {
		b, e := d.Read(n)
		if e != api.OK || other.Write(n, b) != api.OK {
			t.Fatalf("P202: Read(%d): %v", n, e)
		}
	}
	return other
}

// kill lets the power go without a call of the store's: by a write that is not done.
func kill(d *disk.Disk) {
	d.Cut(0)
	d.Write(0, make([]byte, api.Block))
}

// looks is a view, and what it must show.
type looks struct {
	v   *txn.View
	all []api.KV
}

// rig has a store, and beside it plain maps with what it must show.
type rig struct {
	t       *testing.T
	d       *disk.Disk
	s       *txn.Store
	x       *txn.Tx           // nil: none is open
	done    map[string]string // by the last Commit that was answered OK
	half    map[string]string // what a Commit that was cut off was to make
	now     map[string]string // what the transaction sees
	changes int               // that were answered OK
	full    bool              // one was answered ErrDiskFull
	commits int
	views   []looks // that are open
	gone    []looks // that show nothing
	over    []*txn.Tx
}

func newRig(t *testing.T, blocks int) *rig {
	t.Helper()
	r := &rig{t: t, d: newDisk(t, blocks), done: map[string]string{}}
	r.s = opened(t, r.d)
	r.shows()
	return r
}

func (r *rig) begin() {
	r.t.Helper()
	x, e := r.s.Begin()
	want := api.OK
	switch {
	case r.x != nil:
		want = api.ErrBusy
	case r.d.Dead():
		want = api.ErrDead
	}
	if e != want || (x != nil) != (e == api.OK) {
		r.t.Fatalf("P501: Begin: %v, not %v", e, want)
	}
	if e == api.OK {
		r.x, r.now, r.changes, r.full = x, maps.Clone(r.done), 0, false
	}
}

func (r *rig) put(key, value string) api.Errno {
	r.t.Helper()
	e := r.x.Put(key, value)
	want := api.OK
	switch {
	case r.d.Dead():
		want = api.ErrDead
	case len(key) < 1 || len(key) > 48:
		want = api.ErrArg
	case len(value) > 120:
		want = api.ErrLong
	}
	if left := r.s.Left(); !r.d.Dead() && left < 0 {
		r.t.Fatalf("P502: Left %d", left)
	}
	if e == api.ErrDiskFull && want == api.OK {
		r.full = true
		return e
	}
	if e != want {
		r.t.Fatalf("P501: Put of %d and %d bytes: %v, not %v", len(key), len(value), e, want)
	}
	if e == api.OK {
		r.now[key] = value
		r.changes++
	}
	return e
}

func (r *rig) del(key string) api.Errno {
	r.t.Helper()
	e := r.x.Del(key)
	_, is := r.now[key]
	want := api.OK
	switch {
	case r.d.Dead():
		want = api.ErrDead
	case !is:
		want = api.ErrNone
	}
	if e == api.ErrDiskFull && want == api.OK {
		r.full = true
		return e
	}
	if e != want {
		r.t.Fatalf("P501: Del(%q), there: %t: %v, not %v", key, is, e, want)
	}
	if e == api.OK {
		delete(r.now, key)
		r.changes++
	}
	return e
}

// commit holds the error to what the disk tells; whether it had too little room is for the test to say.
func (r *rig) commit() api.Errno {
	r.t.Helper()
	dead, before := r.d.Dead(), r.d.Writes()
	e := r.x.Commit()
	wrote := r.d.Writes() - before
	switch {
	case r.d.Dead() && e != api.ErrDead, !r.d.Dead() && e != api.OK && e != api.ErrDiskFull:
		r.t.Fatalf("P501: Commit, dead %t: %v", r.d.Dead(), e)
	case e == api.OK && r.full:
		r.t.Fatal("P501: Commit behind a Put that was answered ErrDiskFull: OK")
	case e == api.OK && (wrote > 0) != (r.changes > 0), e == api.ErrDiskFull && wrote > 0:
		r.t.Fatalf("P501: Commit of %d changes: %v, %d writes", r.changes, e, wrote)
	case e == api.OK:
		r.done = r.now
		r.commits += min(1, r.changes)
	case e == api.ErrDead && !dead:
		r.half = r.now
	}
	r.ends()
	return e
}

func (r *rig) abort() {
	r.t.Helper()
	before := r.d.Writes()
	r.x.Abort()
	if r.d.Writes() != before {
		r.t.Fatal("P501: Abort writes")
	}
	r.ends()
}

func (r *rig) ends() {
	r.t.Helper()
	r.over = append(r.over, r.x)
	r.over = r.over[max(0, len(r.over)-3):]
	r.x, r.now = nil, nil
	r.showsOver()
	if n := r.s.Commits(); n != r.commits {
		r.t.Fatalf("P501: Commits %d, not %d", n, r.commits)
	}
}

// showsOver holds that transactions that are over do and show nothing, whatever others do.
func (r *rig) showsOver() {
	r.t.Helper()
	before := r.d.Writes()
	for _, x := range r.over {
		a, b, c, d, e := x.Put("over", "x"), x.Put("", ""), x.Del("over"), x.Del(anyKey(r.done)), x.Commit()
		if a != api.ErrOver || b != api.ErrOver || c != api.ErrOver || d != api.ErrOver || e != api.ErrOver {
			r.t.Fatalf("P501: over: %v, %v, %v, %v, %v", a, b, c, d, e)
		}
		x.Abort()
		for _, key := range []string{"", "over", anyKey(r.done)} {
			if v, is := x.Get(key); is || v != "" {
				r.t.Fatalf("P501: over: Get(%q): %q, %t", key, v, is)
			}
		}
		if l := x.Scan("", "", 0); len(l) != 0 {
			r.t.Fatalf("P501: over: Scan: %q", l)
		}
	}
	if r.d.Writes() != before {
		r.t.Fatal("P501: over: it writes")
	}
}

func (r *rig) look() *txn.View {
	r.t.Helper()
	before := r.d.Writes()
	v := r.s.Look()
	if v == nil || r.d.Writes() != before {
		r.t.Fatal("P502: Look")
	}
	switch {
	case r.d.Dead():
		v.Get("a")
		v.Scan("", "", 0)
		v.Close()
	case len(r.views) == 16:
		r.gone = append(r.gone, looks{v, nil})
	default:
		r.views = append(r.views, looks{v, sorted(r.done)})
	}
	return v
}

// close closes the i-th view that is open.
func (r *rig) close(i int) {
	r.t.Helper()
	r.views[i].v.Close()
	r.gone = append(r.gone, looks{r.views[i].v, nil})
	r.gone = r.gone[max(0, len(r.gone)-20):]
	r.views = slices.Delete(r.views, i, i+1)
}

// shows holds all that is shown against the maps: the transaction, the views, and one that is taken now.
func (r *rig) shows() {
	r.t.Helper()
	if !r.d.Dead() && r.x != nil {
		r.showsAll("P501: Tx", r.x, sorted(r.now))
	}
	r.showsViews()
	if !r.d.Dead() && len(r.views) < 16 {
		v := r.look()
		r.showsAll("P502: Look", v, sorted(r.done))
		r.close(len(r.views) - 1)
		r.showsAll("P502: Close", v, nil)
		v.Close()
	}
	r.showsOver()
	if n := r.s.Commits(); n != r.commits {
		r.t.Fatalf("P501: Commits %d, not %d", n, r.commits)
	}
}

func (r *rig) showsViews() {
	r.t.Helper()
	for _, l := range append(slices.Clone(r.views), r.gone...) {
		r.showsAll("P502: View", l.v, l.all)
	}
}

// reader is a transaction or a view.
type reader interface {
	Get(key string) (string, bool)
	Scan(lo, hi string, limit int) []api.KV
}

func (r *rig) showsAll(what string, x reader, all []api.KV) {
	r.t.Helper()
	n := len(all)
	for _, limit := range []int{0, -1, 1, n - 1, n, n + 1, math.MaxInt, math.MinInt} {
		r.scans(what, x, all, "", "", limit)
	}
	for i := 0; i < n; i += 1 + n/20 {
		key, other := all[i].Key, all[i*7%n].Key
		r.gets(what, x, all, key)
		r.gets(what, x, all, key+"\x00")
		r.gets(what, x, all, key[:len(key)-1])
		r.scans(what, x, all, key, "", 3)
		r.scans(what, x, all, "", key, 0)
		r.scans(what, x, all, key, key, 0)
		r.scans(what, x, all, key+"\x00", other, 0)
		r.scans(what, x, all, key, other+"\x00", 2)
		r.scans(what, x, all, key, other, math.MaxInt)
	}
	for _, key := range []string{"", "a", "\x00", anyKey(r.done), anyKey(r.now), strings.Repeat("\xff", 60)} {
		r.gets(what, x, all, key)
		r.scans(what, x, all, key, "", 1)
		r.scans(what, x, all, "a", key, -5)
	}
}

func (r *rig) gets(what string, x reader, all []api.KV, key string) {
	r.t.Helper()
	want, there := "", false
	if l := plainScan(all, key, key+"\x00", 0); len(l) == 1 {
		want, there = l[0].Value, true
	}
	if v, is := x.Get(key); is != there || v != want {
		r.t.Fatalf("%s: Get(%q): %q, %t, not %q, %t", what, key, v, is, want, there)
	}
}

func (r *rig) scans(what string, x reader, all []api.KV, lo, hi string, limit int) {
	r.t.Helper()
	got, want := x.Scan(lo, hi, limit), plainScan(all, lo, hi, limit)
	if !slices.Equal(got, want) {
		r.t.Fatalf("%s: Scan(%q, %q, %d): %s, not %s", what, lo, hi, limit, brief(got), brief(want))
	}
	spoil(got)
}

// brief tells a list in few words.
func brief(l []api.KV) string {
	all := fmt.Sprintf("%d keys: %.20q", len(l), l)
	return all[:min(len(all), 300)]
}

// spoil writes over a list and its spare room, so that one who has it too shows it.
func spoil(l []api.KV) {
	for i := range l[:cap(l)] {
		l[:cap(l)][i] = api.KV{Key: "spoilt", Value: "spoilt"}
	}
}

func sorted(m map[string]string) []api.KV {
	var all []api.KV
	for _, k := range slices.Sorted(maps.Keys(m)) {
		all = append(all, api.KV{Key: k, Value: m[k]})
	}
	return all
}

// anyKey is a key that is there, or none.
func anyKey(m map[string]string) string {
	best := ""
	for k := range m {
		best = max(best, k)
	}
	return best
}

// plainScan is Scan of all that there is.
func plainScan(all []api.KV, lo, hi string, limit int) []api.KV {
	var found []api.KV
	for _, kv := range all {
		if kv.Key >= lo && (hi == "" || kv.Key < hi) && (limit < 1 || len(found) < limit) {
			found = append(found, kv)
		}
	}
	return found
}

// open opens the disk again, and holds it against the last Commit, or the one that was cut off.
func (r *rig) open() {
	r.t.Helper()
	r.s = opened(r.t, r.d)
	r.x, r.now, r.over, r.views, r.gone = nil, nil, nil, nil, nil
	if r.half != nil && slices.Equal(r.s.Look().Scan("", "", 0), sorted(r.half)) && r.s.Commits() > r.commits {
		r.done = r.half
		r.commits++
	}
	r.half = nil
	r.s = opened(r.t, r.d)
	r.shows()
	if left := r.s.Left(); left < r.d.Blocks()-32-2*len(r.done)-8 {
		r.t.Fatalf("P502: %d keys: %d pages left", len(r.done), left)
	}
}

// start brings the power again, opens the disk with other cuts to come, and then for good.
func (r *rig) start() {
	r.t.Helper()
	for cut := range 4 {
		r.d.Start()
		r.d.Cut(cut)
		if s, e := txn.Open(r.d); e != api.OK && e != api.ErrDead || (s != nil) != (e == api.OK) {
			r.t.Fatalf("P501: Open with %d writes to come: %v", cut, e)
		}
	}
	r.d.Start()
	r.open()
}

// showsDead holds what a store answers whose power went; it ends its transaction.
func (r *rig) showsDead() {
	r.t.Helper()
	if s, e := txn.Open(r.d); r.d.Dead() && (s != nil || e != api.ErrDead) {
		r.t.Fatalf("P501: dead: Open: %v", e)
	}
	if x := r.x; x != nil {
		if y, e := r.s.Begin(); y != nil || e != api.ErrBusy {
			r.t.Fatalf("P501: dead: Begin: %v", e)
		}
		for _, e := range []api.Errno{x.Put("a", "b"), x.Put("", ""), x.Put("a", text(1, 121)), x.Del("a"), x.Del(anyKey(r.done))} {
			if e != api.ErrDead {
				r.t.Fatalf("P501: dead: %v", e)
			}
		}
		x.Get("a")
		x.Scan("", "", 0)
		if e := x.Commit(); e != api.ErrDead {
			r.t.Fatalf("P501: dead: Commit: %v", e)
		}
		r.ends()
	}
	if x, e := r.s.Begin(); x != nil || e != api.ErrDead {
		r.t.Fatalf("P501: dead: Begin: %v", e)
	}
	r.s.Left()
	r.s.Look().Close()
	r.shows()
}

// need tells how many pages these changes take, of a tree on another disk that is the same.
func need(t *testing.T, d *disk.Disk, change func(x *tree.Tree)) int {
	t.Helper()
	p, e := pager.Open(copyOf(t, d))
	if e != api.OK {
		t.Fatalf("P301: %v", e)
	}
	x, e := tree.Open(p)
	if e != api.OK {
		t.Fatalf("P401: %v", e)
	}
	change(x)
	return p.Left() - x.Left()
}
