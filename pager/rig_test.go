package pager_test

import (
	"bytes"
	"maps"
	"math"
	"strings"
	"testing"

	"toll/api"
	"toll/disk"
	"toll/pager"
)

// spare is what stands in the spare room of bytes that are handed in.
const spare = 0xEE

// roomy is bytes with spare room behind them.
func roomy(s string) []byte {
	b := append([]byte(s), bytes.Repeat([]byte{spare}, 40)...)
	return b[:len(s)]
}

// stays fails if bytes of roomy, or their spare room, were changed; then it spoils them, so that one who kept them shows it.
func stays(t *testing.T, what string, b []byte, s string) {
	t.Helper()
	whole := b[:len(s)+40]
	if string(whole) != s+strings.Repeat("\xEE", 40) {
		t.Errorf("P2: %s: what was handed in was changed", what)
	}
	for i := range whole {
		whole[i] = 0x55
	}
}

// text is n bytes, other ones for each seed.
func text(seed, n int) string {
	b := make([]byte, n)
	x := uint32(seed)*2654435761 + 12345
	for i := range b {
		x = x*1664525 + 1013904223
		b[i] = byte(x >> 24)
	}
	return string(b)
}

func made(t *testing.T, blocks int) *disk.Disk {
	t.Helper()
	d, e := disk.New(blocks)
	if e != api.OK {
		t.Fatalf("P201: New(%d): %v", blocks, e)
	}
	return d
}

func opened(t *testing.T, d *disk.Disk) *pager.Pager {
	t.Helper()
	p, e := pager.Open(d)
	if e != api.OK || p == nil {
		t.Fatalf("P301: Open: %v", e)
	}
	return p
}

// kept is what a Commit made.
type kept struct {
	pages map[int]string
	root  string
	seq   int
}

// rig has a pager, and beside it what it must show, as plain values.
type rig struct {
	t      *testing.T
	d      *disk.Disk
	p      *pager.Pager
	done   kept           // by the last Commit that was answered OK
	half   *kept          // what a Commit that was cut off was to make
	now    map[int]string // the pages that are there
	allocs int            // since the last Commit
	wrote  int            // blocks, till then
}

func newRig(t *testing.T, blocks int) *rig {
	t.Helper()
	d := made(t, blocks)
	r := &rig{t: t, d: d, p: opened(t, d), now: map[int]string{}}
	r.shows()
	return r
}

// alloc tells 0 where the disk is full or the power is gone.
func (r *rig) alloc(s string) int {
	r.t.Helper()
	left := r.p.Left()
	dead := r.d.Dead()
	b := roomy(s)
	n, e := r.p.Alloc(b)
	stays(r.t, "Alloc", b, s)
	want := api.OK
	switch {
	case dead || r.d.Dead():
		want = api.ErrDead
	case len(s) > pager.Body:
		want = api.ErrLong
	case left == 0:
		want = api.ErrDiskFull
	}
	if e != want {
		r.t.Fatalf("P302: Alloc of %d bytes, %d left: %v, not %v", len(s), left, e, want)
	}
	if e != api.OK {
		if n != 0 {
			r.t.Fatalf("P4: Alloc: %v and %d", e, n)
		}
		return 0
	}
	r.isNew(n)
	r.now[n] = s
	r.allocs++
	if r.p.Left() != left-1 {
		r.t.Fatalf("P304: %d left ahead of an Alloc, %d behind it", left, r.p.Left())
	}
	return n
}

func (r *rig) isNew(n int) {
	r.t.Helper()
	_, there := r.now[n]
	_, old := r.done.pages[n]
	if n < 1 || there || old {
		r.t.Fatalf("P302: Alloc: page %d, there %t, committed %t", n, there, old)
	}
}

func (r *rig) free(n int) {
	r.t.Helper()
	want := api.OK
	if _, there := r.now[n]; !there {
		want = api.ErrNone
	}
	if r.d.Dead() {
		want = api.ErrDead
	}
	left := r.p.Left()
	e := r.p.Free(n)
	if want == api.OK && r.d.Dead() {
		want = api.ErrDead
	}
	if e != want {
		r.t.Fatalf("P302: Free(%d): %v, not %v", n, e, want)
	}
	if e != api.OK {
		return
	}
	delete(r.now, n)
	if _, old := r.done.pages[n]; !old {
		left++
	}
	if r.p.Left() != left {
		r.t.Fatalf("P302: behind Free(%d) %d are left, not %d", n, r.p.Left(), left)
	}
}

func (r *rig) commit(s string) api.Errno {
	r.t.Helper()
	dead := r.d.Dead()
	b := roomy(s)
	e := r.p.Commit(b)
	stays(r.t, "Commit", b, s)
	want := api.OK
	switch {
	case dead || r.d.Dead():
		want = api.ErrDead
	case len(s) > 64:
		want = api.ErrLong
	}
	if e != want {
		r.t.Fatalf("P303: Commit of a root of %d bytes: %v, not %v", len(s), e, want)
	}
	next := kept{maps.Clone(r.now), s, r.done.seq + 1}
	switch {
	case e == api.OK:
		r.writesFew()
		r.done, r.allocs, r.wrote = next, 0, r.d.Writes()
	case e == api.ErrDead && !dead && len(s) <= 64:
		r.half = &next
	}
	return e
}

func (r *rig) abort() {
	r.p.Abort()
	r.now = maps.Clone(r.done.pages)
	if r.now == nil {
		r.now = map[int]string{}
	}
}

// writesFew holds what was written since the last Commit against P304.
func (r *rig) writesFew() {
	r.t.Helper()
	if n := r.d.Writes() - r.wrote; n > r.allocs+12 {
		r.t.Fatalf("P304: %d writes since the last Commit, and %d pages allocated", n, r.allocs)
	}
}

// shows holds all that a pager with power shows against what it must show.
func (r *rig) shows() {
	r.t.Helper()
	if r.p.Seq() != r.done.seq || string(r.p.Root()) != r.done.root {
		r.t.Fatalf("P303: Seq %d, Root %q, not %d, %q", r.p.Seq(), r.p.Root(), r.done.seq, r.done.root)
	}
	taken := len(r.now)
	for n := range r.done.pages {
		if _, there := r.now[n]; !there {
			taken++
		}
	}
	if left := r.p.Left(); left < r.d.Blocks()-32-taken || left > r.d.Blocks()-taken {
		r.t.Fatalf("P304: %d blocks, %d pages taken, %d left", r.d.Blocks(), taken, left)
	}
	for n := -1; n <= r.d.Blocks(); n++ {
		r.showsPage(n)
	}
	for _, n := range farPages() {
		r.showsPage(n)
	}
}

func (r *rig) showsPage(n int) {
	r.t.Helper()
	b, e := r.p.Read(n)
	s, there := r.now[n]
	switch {
	case there && (e != api.OK || string(b) != s):
		r.t.Fatalf("P302: Read(%d): %v, %d bytes, not its %d bytes", n, e, len(b), len(s))
	case !there && (e != api.ErrNone || b != nil):
		r.t.Fatalf("P302: Read(%d): %v, %d bytes, not ErrNone", n, e, len(b))
	}
	for i := range b[:cap(b)] {
		b[:cap(b)][i] = 0x55
	}
}

// showsDead holds that a pager whose power went answers ErrDead and nothing else.
func (r *rig) showsDead() {
	r.t.Helper()
	for _, s := range []string{"", "x", text(1, 496), text(1, 497)} {
		if n, e := r.p.Alloc([]byte(s)); e != api.ErrDead || n != 0 {
			r.t.Fatalf("P303: dead: Alloc of %d bytes: %d, %v", len(s), n, e)
		}
	}
	for _, s := range []string{"", "x", text(1, 64), text(1, 65)} {
		if e := r.p.Commit([]byte(s)); e != api.ErrDead {
			r.t.Fatalf("P303: dead: Commit of %d bytes: %v", len(s), e)
		}
	}
	for _, n := range append(farPages(), 0, -1, r.anyPage()) {
		if e := r.p.Free(n); e != api.ErrDead {
			r.t.Fatalf("P303: dead: Free(%d): %v", n, e)
		}
		if b, e := r.p.Read(n); e != api.ErrDead || b != nil {
			r.t.Fatalf("P303: dead: Read(%d): %v, %d bytes", n, e, len(b))
		}
	}
	r.p.Abort()
	r.p.Left()
	r.p.Root()
	r.p.Seq()
}

// anyPage is a page that is there, or 0.
func (r *rig) anyPage() int {
	best := 0
	for n := range r.now {
		best = max(best, n)
	}
	return best
}

// open opens the disk again, and holds it against the last Commit, or the one that was cut off.
func (r *rig) open() {
	r.t.Helper()
	r.p = opened(r.t, r.d)
	if r.half != nil && r.p.Seq() == r.half.seq {
		r.done = *r.half
	}
	r.half = nil
	r.now = maps.Clone(r.done.pages)
	if r.now == nil {
		r.now = map[int]string{}
	}
	r.shows()
}

// start brings the power again and opens the disk.
func (r *rig) start() {
	r.t.Helper()
	r.d.Start()
	r.open()
	r.allocs, r.wrote = 0, r.d.Writes()
}

// farPages are numbers that no page of any disk has.
func farPages() []int {
	return []int{math.MinInt, -1 << 40, -16384, -64, 16384, 16385, 1 << 20, 1 << 32, 1<<32 + 20, 1 << 40, math.MaxInt}
}
