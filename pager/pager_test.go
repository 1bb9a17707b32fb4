package pager_test

import (
	"fmt"
	"math"
	"testing"

	"toll/api"
	"toll/disk"
	"toll/pager"
)

func TestP301Blocks(t *testing.T) {
	for _, blocks := range []int{1, 2, 32, 63} {
		if p, e := pager.Open(made(t, blocks)); p != nil || e != api.ErrArg {
			t.Errorf("P301: %d blocks: %v", blocks, e)
		}
	}
	for _, blocks := range []int{64, 65, 100, 4095, 4096, 4097, 8192, 8193, 12289, api.MaxPages - 1, api.MaxPages} {
		r := newRig(t, blocks)
		if r.p.Seq() != 0 || len(r.p.Root()) != 0 {
			t.Errorf("P301: %d blocks: a new disk has Seq %d, Root %q", blocks, r.p.Seq(), r.p.Root())
		}
		for n := range blocks {
			r.free(n)
		}
		r.open()
	}
}

// gone is a disk whose power is gone.
func gone(t *testing.T, d *disk.Disk) *disk.Disk {
	t.Helper()
	d.Cut(0)
	if e := d.Write(d.Blocks()-1, make([]byte, api.Block)); e != api.ErrDead || !d.Dead() {
		t.Fatalf("P203: %v", e)
	}
	return d
}

func TestP301NoPower(t *testing.T) {
	for _, blocks := range []int{64, 5000, api.MaxPages} {
		if p, e := pager.Open(gone(t, made(t, blocks))); p != nil || e != api.ErrDead {
			t.Errorf("P301: %d blocks, no power: %v", blocks, e)
		}
	}
	if p, e := pager.Open(gone(t, made(t, 63))); p != nil || e != api.ErrArg {
		t.Errorf("P6: 63 blocks, no power: %v", e)
	}
}

// The power goes within Open, or it does not if Open writes less: what is committed stays.
func TestP301PowerGoes(t *testing.T) {
	for _, blocks := range []int{64, api.MaxPages} {
		r := newRig(t, blocks)
		for round := range 3 {
			for cut := range 8 {
				r.d.Cut(cut)
				p, e := pager.Open(r.d)
				if (e == api.ErrDead) != r.d.Dead() || (e == api.OK) != (p != nil) {
					t.Fatalf("P301: power for %d writes: %v, dead %t", cut, e, r.d.Dead())
				}
				r.start()
			}
			r.alloc(text(round, 100))
			r.commit(fmt.Sprint("root", round))
		}
	}
}

func TestP302Lengths(t *testing.T) {
	r := newRig(t, 64)
	for _, n := range []int{0, 1, 2, 15, 16, 255, 256, 257, 480, 495, 496} {
		if r.alloc(text(n, n)) == 0 {
			t.Errorf("P302: %d bytes", n)
		}
	}
	r.shows()
	for _, n := range []int{497, 498, 511, 512, 513, 65536 + 3} {
		if r.alloc(text(n, n)) != 0 {
			t.Errorf("P302: %d bytes", n)
		}
	}
	if n, e := r.p.Alloc(nil); e != api.OK || n < 1 {
		t.Errorf("P2: no list: %d, %v", n, e)
	} else {
		r.now[n] = ""
	}
	r.shows()
	r.commit("r")
	r.open()
}

func TestP302WrongPages(t *testing.T) {
	r := newRig(t, 64)
	a, b := r.alloc("a"), r.alloc("b")
	r.commit("r")
	c := r.alloc("c")
	wrong := append(farPages(), -3, -2, -1, 0, 64, 65, a+64, b+64, c+64, a-64, a+16384, a+1<<32)
	for _, n := range wrong {
		r.free(n)
	}
	for n := range 64 {
		if n != a && n != b && n != c {
			r.free(n)
		}
	}
	r.shows()
	for _, n := range []int{a, c} {
		r.free(n)
		if e := r.p.Free(n); e != api.ErrNone {
			t.Errorf("P302: freed twice: %v", e)
		}
		r.shows()
	}
	r.commit("r")
	for _, n := range []int{a, c} {
		r.free(n)
	}
	r.open()
	for _, n := range []int{a, c} {
		r.free(n)
	}
	r.shows()
}

// fill allocates till the disk is full, as many as Left says.
func fill(r *rig, seed int) []int {
	r.t.Helper()
	var pages []int
	left := r.p.Left()
	for i := range left {
		n := r.alloc(text(seed+i, (seed+i)%497))
		if n == 0 {
			r.t.Fatalf("P304: %d left, %d allocated", left, i)
		}
		pages = append(pages, n)
	}
	if n, e := r.p.Alloc([]byte("x")); n != 0 || e != api.ErrDiskFull || r.p.Left() != 0 {
		r.t.Fatalf("P302: a full disk: %d, %v, %d left", n, e, r.p.Left())
	}
	return pages
}

func TestP304Room(t *testing.T) {
	for _, blocks := range []int{64, 65, 127, 128, 200, 4096, 4097, api.MaxPages} {
		r := newRig(t, blocks)
		pages := fill(r, blocks)
		if len(pages) < blocks-32 {
			t.Fatalf("P304: %d blocks: %d pages", blocks, len(pages))
		}
		if _, e := r.p.Alloc(make([]byte, 497)); e != api.ErrLong {
			t.Errorf("P6: too long for a full disk: %v", e)
		}
		r.shows()
		r.commit("full")
		if _, e := r.p.Alloc(nil); e != api.ErrDiskFull {
			t.Errorf("P302: full behind Commit: %v", e)
		}
		r.open()
		for i, n := range pages {
			if i%3 != 0 {
				r.free(n)
			}
		}
		if _, e := r.p.Alloc(nil); e != api.ErrDiskFull || r.p.Left() != 0 {
			t.Errorf("P302: committed ones that were freed: %v, %d left", e, r.p.Left())
		}
		r.commit("a third")
		r.shows()
		fill(r, blocks+1)
		r.abort()
		r.shows()
		fill(r, blocks+2)
		r.commit("full again")
		r.open()
	}
}

// A page that was allocated since is free for others at once, and as often as one likes.
func TestP302FreeAtOnce(t *testing.T) {
	r := newRig(t, 64)
	for i := range 500 {
		n := r.alloc(text(i, i%497))
		r.showsPage(n)
		r.free(n)
		r.showsPage(n)
	}
	r.shows()
	pages := fill(r, 7)
	r.free(pages[5])
	if n := r.alloc("in its place"); n == 0 {
		t.Error("P302: a page that was freed is not free")
	}
	r.commit("r")
	r.open()
}

func TestP303Roots(t *testing.T) {
	r := newRig(t, 64)
	for i, n := range []int{0, 1, 63, 64, 0, 64, 5} {
		r.alloc(text(i, 9))
		if e := r.commit(text(n, n)); e != api.OK {
			t.Errorf("P303: a root of %d bytes: %v", n, e)
		}
		r.shows()
		r.open()
	}
	r.alloc("not yet")
	r.free(r.anyPage())
	r.alloc("not yet either")
	for _, n := range []int{65, 66, 128, 256, 257, 300, 512, 70000} {
		wrote := r.d.Writes()
		if e := r.commit(text(n, n)); e != api.ErrLong || r.d.Writes() != wrote {
			t.Errorf("P303: a root of %d bytes: %v", n, e)
		}
	}
	r.shows()
	if e := r.p.Commit(nil); e != api.OK || len(r.p.Root()) != 0 {
		t.Errorf("P303: no root: %v, %q", e, r.p.Root())
	}
}

func TestP303Commits(t *testing.T) {
	r := newRig(t, 64)
	for i := 1; i <= 300; i++ {
		r.commit(fmt.Sprint(i))
		if r.p.Seq() != i {
			t.Fatalf("P303: Seq %d behind %d Commits", r.p.Seq(), i)
		}
		if i%7 == 0 {
			r.open()
		}
	}
}

func TestP303Example(t *testing.T) {
	d := made(t, 64)
	p := opened(t, d)
	n, e := p.Alloc([]byte("x"))
	if e != api.OK || p.Commit([]byte("r")) != api.OK {
		t.Fatalf("P303: %v", e)
	}
	q := opened(t, d)
	if b, e := q.Read(n); e != api.OK || string(b) != "x" || string(q.Root()) != "r" || q.Seq() != 1 {
		t.Errorf("P303: %v, %q, %q, %d", e, b, q.Root(), q.Seq())
	}
}

func TestP303Abort(t *testing.T) {
	r := newRig(t, 64)
	r.abort()
	r.shows()
	a, b, c := r.alloc("a"), r.alloc("b"), r.alloc("c")
	left := r.p.Left()
	r.abort()
	r.shows()
	if r.p.Left() != left+3 {
		t.Errorf("P303: %d left behind Abort, not %d", r.p.Left(), left+3)
	}
	a, b, c = r.alloc("a"), r.alloc("b"), r.alloc("c")
	r.commit("r")
	left = r.p.Left()
	r.free(a)
	r.free(b)
	d := r.alloc("d")
	e := r.alloc("e")
	r.free(d)
	r.shows()
	r.abort()
	r.shows()
	if r.p.Left() != left {
		t.Errorf("P303: %d left behind Abort, not %d", r.p.Left(), left)
	}
	r.free(e)
	r.free(c)
	r.commit("s")
	r.abort()
	r.shows()
	r.open()
}

// What was not committed is not there when the disk is opened again, and its room is.
func TestP301Uncommitted(t *testing.T) {
	r := newRig(t, 64)
	a := r.alloc("a")
	r.commit("r")
	left := r.p.Left()
	r.alloc("b")
	r.free(a)
	r.open()
	if r.p.Left() != left {
		t.Errorf("P301: %d left, not %d", r.p.Left(), left)
	}
}

func TestP303DeadStaysDead(t *testing.T) {
	for _, blocks := range []int{64, api.MaxPages} {
		for cut := range 4 {
			r := newRig(t, blocks)
			r.alloc("a")
			r.commit("r")
			r.d.Cut(cut)
			for i := 0; !r.d.Dead(); i++ {
				r.alloc(text(i, i))
				if i%2 == 1 && !r.d.Dead() {
					r.commit("s")
				}
			}
			r.showsDead()
			r.d.Start()
			r.showsDead()
			r.start()
		}
	}
}

// The power goes by another's write: each call tells it, the first one too.
func TestP303DeadAtOnce(t *testing.T) {
	for first := range 6 {
		d := made(t, 64)
		p := opened(t, d)
		n, _ := p.Alloc([]byte("a"))
		p.Commit(nil)
		if first%2 == 1 {
			p = opened(t, d)
		}
		gone(t, d)
		e := api.ErrDead
		switch first / 2 {
		case 0:
			e = p.Free(n)
		case 1:
			_, e = p.Read(n)
		case 2:
			p.Left()
		}
		if e != api.ErrDead {
			t.Errorf("P303: no power: %v", e)
		}
		if first < 4 || first == 5 {
			d.Start()
		}
		if _, e := p.Read(n); e != api.ErrDead {
			t.Errorf("P303: the power went: Read: %v", e)
		}
		if e := p.Commit(nil); e != api.ErrDead {
			t.Errorf("P303: the power went: Commit: %v", e)
		}
	}
}

// A long run: what is written from one Commit to the next, and what a plain pager shows.
func TestP304Writes(t *testing.T) {
	for _, blocks := range []int{64, 300, 4097, api.MaxPages} {
		r := newRig(t, blocks)
		var live []int
		for i := range 400 {
			for j := range (i * 7) % 11 {
				if n := r.alloc(text(i*16+j, (i*31+j)%497)); n != 0 {
					live = append(live, n)
				}
			}
			for j := range (i * 5) % 9 {
				if len(live) > 0 {
					k := (i + j*13) % len(live)
					r.free(live[k])
					live = append(live[:k], live[k+1:]...)
				}
			}
			r.commit(fmt.Sprint("root", i))
			r.writesFew()
			if i%100 == 99 {
				r.shows()
				r.open()
				r.writesFew()
			}
		}
	}
}

// Aborts and openings between two Commits write no more than P304 lets them.
func TestP304Between(t *testing.T) {
	r := newRig(t, api.MaxPages)
	for round := range 3 {
		for i := range 30 {
			n := r.alloc("x")
			if i%3 == 0 {
				r.free(n)
			}
			r.free(r.anyPage())
			if i%5 == 0 {
				r.abort()
			}
			if i%7 == 0 {
				r.open()
			}
			r.writesFew()
		}
		r.commit(fmt.Sprint(round))
	}
}

func TestP2Answers(t *testing.T) {
	d := made(t, 64)
	p := opened(t, d)
	n, _ := p.Alloc([]byte("abc"))
	p.Commit([]byte("root"))
	for _, q := range []*pager.Pager{p, opened(t, d)} {
		for range 3 {
			b, _ := q.Read(n)
			c := q.Root()
			if string(b) != "abc" || string(c) != "root" {
				t.Fatalf("P2: %q, %q", b, c)
			}
			spoil(b)
			spoil(c)
		}
	}
}

func spoil(b []byte) {
	whole := b[:cap(b)]
	for i := range whole {
		whole[i] = 0xFF
	}
}

func TestP7TwoPagers(t *testing.T) {
	a, b := newRig(t, 64), newRig(t, 64)
	for i := range 10 {
		a.alloc(text(i, 5))
		b.alloc(text(-i, 7))
		if i%3 == 0 {
			a.commit("a")
			b.abort()
		}
		b.free(b.anyPage())
	}
	b.d.Cut(0)
	b.commit("b")
	a.shows()
	a.commit("a")
	a.open()
	b.start()
}

func TestP3Same(t *testing.T) {
	run := func() string {
		r := newRig(t, 100)
		told := ""
		for i := range 60 {
			n := r.alloc(text(i, i))
			told += fmt.Sprint(n, " ", r.p.Left(), " ")
			if i%4 == 1 {
				r.free(n - 1)
			}
			if i%9 == 8 {
				r.abort()
			}
			if i%5 == 4 {
				r.commit(fmt.Sprint(i))
			}
		}
		return told
	}
	if a, b := run(), run(); a != b {
		t.Errorf("P3: %s, and then %s", a, b)
	}
}

// Reads and writes are counted, and those of the free map come once.
func TestWaysCounts(t *testing.T) {
	r := newRig(t, api.MaxPages)
	n := r.alloc("x")
	r.commit("r")
	if _, writes := r.p.Counts(); int(writes) != r.d.Writes() {
		t.Errorf("ways: %d writes were counted, not %d", writes, r.d.Writes())
	}
	p := opened(t, r.d)
	p.Left()
	before, _ := p.Counts()
	for range 5 {
		p.Left()
		p.Alloc([]byte("y"))
		p.Free(n)
		p.Abort()
		p.Commit(nil)
	}
	if reads, _ := p.Counts(); reads != before {
		t.Errorf("ways: the free map was read again: %d reads, then %d", before, reads)
	}
	p.Read(n)
	if reads, _ := p.Counts(); reads != before+1 {
		t.Errorf("ways: %d reads were counted, not %d", reads, before+1)
	}
}

// No promise but P1 is kept on a disk that others wrote to.
func TestP1OddDisks(t *testing.T) {
	for seed := range 200 {
		d := made(t, 64)
		p := opened(t, d)
		for i := range 20 {
			p.Alloc(text2(i))
			p.Commit(text2(i))
		}
		for n := range 64 {
			if b, _ := d.Read(n); (n+seed)%3 != 0 {
				copy(b[seed%512:], text(seed+n, 512))
				d.Write(n, b)
			}
		}
		for _, q := range []*pager.Pager{p, opened(t, d)} {
			for n := range 64 {
				q.Read(n)
				q.Free(n)
				q.Alloc(text2(n))
				q.Root()
				q.Left()
			}
			q.Abort()
			q.Commit(nil)
		}
	}
}

func text2(n int) []byte { return []byte(text(n, n)) }

func TestP1OddHeads(t *testing.T) {
	for _, size := range []int{0, 64, 65, 255} {
		for _, seq := range []uint64{0, 1, 2, math.MaxInt64, 1 << 63, math.MaxUint64} {
			d := made(t, 64)
			d.Write(0, pager.HeadBlock(seq, size))
			d.Write(1, pager.HeadBlock(seq, size))
			p := opened(t, d)
			p.Root()
			p.Alloc(nil)
			p.Commit(nil)
		}
	}
}

// A head that no pager wrote does not count, whatever it says.
func TestHeadSum(t *testing.T) {
	d := made(t, 64)
	p := opened(t, d)
	p.Commit([]byte("one"))
	p.Commit([]byte("two"))
	for n := range 2 {
		b, _ := d.Read(n)
		for i := range b {
			b[i] ^= 1
			d.Write(n, b)
			if q := opened(t, d); string(q.Root()) != []string{"one", "two"}[n] || q.Seq() != n+1 {
				t.Fatalf("P301: byte %d of head %d is another: %q, Seq %d", i, n, q.Root(), q.Seq())
			}
			b[i] ^= 1
		}
		d.Write(n, b)
	}
}
