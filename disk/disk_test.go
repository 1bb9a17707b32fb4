package disk_test

import (
	"bytes"
	"math"
	"testing"

	"toll/api"
	"toll/disk"
)

// row is a block of one byte.
func row(x byte) []byte { return bytes.Repeat([]byte{x}, api.Block) }

// noise is a block of many bytes, the same ones each time.
func noise(seed uint32) []byte {
	b := make([]byte, api.Block)
	for i := range b {
		seed = seed*1664525 + 1013904223
		b[i] = byte(seed >> 24)
	}
	return b
}

// made is a new disk of so many blocks.
func made(t *testing.T, blocks int) *disk.Disk {
	t.Helper()
	d, e := disk.New(blocks)
	if e != api.OK || d == nil {
		t.Fatalf("P201: New(%d): %v", blocks, e)
	}
	return d
}

func holds(t *testing.T, what string, d *disk.Disk, n int, want []byte) {
	t.Helper()
	if b, e := d.Read(n); e != api.OK || !bytes.Equal(b, want) {
		t.Errorf("%s: Read(%d): %v, %d bytes, not those that were asked for", what, n, e, len(b))
	}
}

func readFails(t *testing.T, what string, d *disk.Disk, n int, want api.Errno) {
	t.Helper()
	if b, e := d.Read(n); e != want || b != nil {
		t.Errorf("%s: Read(%d): %v and %d bytes, not %v alone", what, n, e, len(b), want)
	}
}

func writes(t *testing.T, what string, d *disk.Disk, n int, b []byte, want api.Errno) {
	t.Helper()
	if e := d.Write(n, b); e != want {
		t.Errorf("%s: Write(%d): %v, not %v", what, n, e, want)
	}
}

func counts(t *testing.T, what string, d *disk.Disk, dead bool, want int) {
	t.Helper()
	if d.Dead() != dead || d.Writes() != want {
		t.Errorf("%s: Dead %t, Writes %d, not %t, %d", what, d.Dead(), d.Writes(), dead, want)
	}
}

// wrongBlocks are numbers that a disk of so many blocks has not.
func wrongBlocks(blocks int) []int {
	return []int{-1, -blocks, math.MinInt, blocks, blocks + 1, api.MaxPages, 1 << 32, math.MaxInt}
}

// wrongRows are bytes that are no block.
func wrongRows() [][]byte {
	return [][]byte{nil, {}, {1}, row(1)[1:], append(row(1), 1), append(row(1), row(2)...)}
}

func TestP201New(t *testing.T) {
	for _, c := range []struct {
		blocks int
		want   api.Errno
	}{
		{math.MinInt, api.ErrArg}, {-1, api.ErrArg}, {0, api.ErrArg},
		{1, api.OK}, {2, api.OK}, {64, api.OK}, {api.MaxPages - 1, api.OK}, {api.MaxPages, api.OK},
		{api.MaxPages + 1, api.ErrArg}, {1 << 32, api.ErrArg}, {1<<32 + 1, api.ErrArg}, {math.MaxInt, api.ErrArg},
	} {
		d, e := disk.New(c.blocks)
		if e != c.want || (d == nil) != (c.want != api.OK) {
			t.Errorf("P201: New(%d): %v, %v, not %v", c.blocks, d, e, c.want)
		}
		if d != nil && d.Blocks() != c.blocks {
			t.Errorf("P201: Blocks() of %d: %d", c.blocks, d.Blocks())
		}
		if d != nil {
			counts(t, "P201: a new disk", d, false, 0)
		}
	}
}

func TestP201BlocksOfNoughts(t *testing.T) {
	for _, blocks := range []int{1, 3, api.MaxPages} {
		d := made(t, blocks)
		for n := range blocks {
			holds(t, "P201: never written", d, n, row(0))
		}
		counts(t, "P201: read only", d, false, 0)
		writes(t, "P202: the last block", d, blocks-1, noise(1), api.OK)
		holds(t, "P202: the last block", d, blocks-1, noise(1))
		for n := range blocks - 1 {
			holds(t, "P201: beside one that was written", d, n, row(0))
		}
		if d.Blocks() != blocks {
			t.Errorf("P201: Blocks() behind a write: %d, not %d", d.Blocks(), blocks)
		}
	}
}

func TestP202WhatIsWrittenIsRead(t *testing.T) {
	d := made(t, 5)
	for n := range 5 {
		writes(t, "P202", d, n, noise(uint32(n)), api.OK)
		counts(t, "P202", d, false, n+1)
	}
	for n := range 5 {
		holds(t, "P202", d, n, noise(uint32(n)))
	}
	writes(t, "P202: written anew", d, 2, row(0xFF), api.OK)
	writes(t, "P202: the same again", d, 2, row(0xFF), api.OK)
	writes(t, "P202: noughts again", d, 4, row(0), api.OK)
	counts(t, "P202: each one counts", d, false, 8)
	for n, want := range [][]byte{noise(0), noise(1), row(0xFF), noise(3), row(0)} {
		holds(t, "P202: written anew", d, n, want)
		holds(t, "P3: read again", d, n, want)
	}
	counts(t, "P202: reads do not count", d, false, 8)
}

func TestP202NoSuchBlock(t *testing.T) {
	for _, blocks := range []int{1, 4, api.MaxPages} {
		d := made(t, blocks)
		writes(t, "P202", d, 0, noise(1), api.OK)
		for _, n := range wrongBlocks(blocks) {
			readFails(t, "P202: no such block", d, n, api.ErrArg)
			writes(t, "P202: no such block", d, n, row(7), api.ErrArg)
			writes(t, "P202: no such block, and no row", d, n, nil, api.ErrArg)
		}
		counts(t, "P202: what may not be counts for nothing", d, false, 1)
		holds(t, "P5: behind errors", d, 0, noise(1))
		if blocks > 1 {
			holds(t, "P5: behind errors", d, blocks-1, row(0))
		}
	}
}

func TestP202BytesThatAreNoBlock(t *testing.T) {
	d := made(t, 2)
	writes(t, "P202", d, 1, noise(1), api.OK)
	for _, b := range wrongRows() {
		writes(t, "P202: not 512 bytes", d, 0, b, api.ErrArg)
		writes(t, "P202: not 512 bytes", d, 1, b, api.ErrArg)
	}
	counts(t, "P202: what may not be counts for nothing", d, false, 1)
	holds(t, "P5: behind errors", d, 0, row(0))
	holds(t, "P5: behind errors", d, 1, noise(1))
}

func TestP203Example(t *testing.T) {
	d := made(t, 2)
	d.Cut(1)
	writes(t, "P203: the example's first", d, 0, row(1), api.OK)
	counts(t, "P203: not yet", d, false, 1)
	holds(t, "P203: not yet", d, 0, row(1))
	writes(t, "P203: the example's next", d, 1, row(2), api.ErrDead)
	counts(t, "P203: nothing was written", d, true, 1)
}

func TestP203CutBehindEachNumber(t *testing.T) {
	for ahead := range 3 {
		for n := range 9 {
			d := made(t, 12)
			for i := range ahead {
				writes(t, "P203: ahead of Cut", d, i, row(9), api.OK)
			}
			d.Cut(n)
			counts(t, "P203: Cut itself", d, false, ahead)
			for i := range n {
				writes(t, "P203: of the next n", d, ahead+i, row(byte(i+1)), api.OK)
				counts(t, "P203: of the next n", d, false, ahead+i+1)
			}
			holds(t, "P203: a read asks for no write", d, 11, row(0))
			writes(t, "P203: the write behind them", d, 11, row(8), api.ErrDead)
			counts(t, "P203: the write behind them", d, true, ahead+n)
			d.Start()
			holds(t, "P202: nothing is written", d, 11, row(0))
			for i := range n {
				holds(t, "P204", d, ahead+i, row(byte(i+1)))
			}
		}
	}
}

func TestP203WrongWritesAreNoWrites(t *testing.T) {
	d := made(t, 3)
	d.Cut(1)
	for range 3 {
		writes(t, "P203: no such block", d, 3, row(1), api.ErrArg)
		writes(t, "P203: no block of bytes", d, 0, row(1)[1:], api.ErrArg)
	}
	writes(t, "P203: the one write", d, 0, row(1), api.OK)
	for range 3 {
		writes(t, "P6: ErrArg ahead of a power that is to go", d, 3, row(1), api.ErrArg)
		writes(t, "P6: ErrArg ahead of a power that is to go", d, 0, nil, api.ErrArg)
		readFails(t, "P202: there still", d, 3, api.ErrArg)
		counts(t, "P5: it is there still", d, false, 1)
	}
	writes(t, "P203: the next one", d, 0, row(2), api.ErrDead)
	counts(t, "P203: the next one", d, true, 1)
}

func TestP202DeadAheadOfArg(t *testing.T) {
	d := made(t, 3)
	writes(t, "P202", d, 1, noise(1), api.OK)
	d.Cut(0)
	writes(t, "P203: Cut(0)", d, 1, row(1), api.ErrDead)
	for n := range 3 {
		readFails(t, "P202: the power is gone", d, n, api.ErrDead)
		writes(t, "P202: the power is gone", d, n, row(2), api.ErrDead)
		for _, b := range wrongRows() {
			writes(t, "P6: ErrDead ahead of ErrArg", d, n, b, api.ErrDead)
		}
	}
	for _, n := range wrongBlocks(3) {
		readFails(t, "P6: ErrDead ahead of ErrArg", d, n, api.ErrDead)
		writes(t, "P6: ErrDead ahead of ErrArg", d, n, row(2), api.ErrDead)
		writes(t, "P6: ErrDead ahead of ErrArg", d, n, nil, api.ErrDead)
	}
	counts(t, "P202: they count for nothing", d, true, 1)
	if d.Blocks() != 3 {
		t.Errorf("P201: Blocks() without power: %d", d.Blocks())
	}
	d.Start()
	holds(t, "P204", d, 0, row(0))
	holds(t, "P204", d, 1, noise(1))
	holds(t, "P204", d, 2, row(0))
}

func TestP203CutBelowNought(t *testing.T) {
	for _, n := range []int{-1, -2, -512, math.MinInt + 1, math.MinInt} {
		d := made(t, 2)
		d.Cut(n)
		for i := range 20 {
			writes(t, "P203: Cut below 0", d, i%2, row(byte(i)), api.OK)
		}
		counts(t, "P203: Cut below 0", d, false, 20)
	}
}

func TestP203CutBehindVeryMany(t *testing.T) {
	for _, n := range []int{1 << 31, 1 << 32, math.MaxInt - 1, math.MaxInt} {
		d := made(t, 2)
		for i := range 4 {
			writes(t, "P203: ahead of Cut", d, 0, row(byte(i)), api.OK)
		}
		d.Cut(n)
		for i := range 20 {
			writes(t, "P203: behind very many", d, i%2, row(byte(i)), api.OK)
		}
		counts(t, "P203: behind very many", d, false, 24)
	}
}

func TestP203SaidAnew(t *testing.T) {
	d := made(t, 2)
	for _, n := range []int{0, 5, -3} {
		d.Cut(n)
		counts(t, "P203: Cut itself", d, false, 0)
	}
	for range 9 {
		writes(t, "P203: below 0 said last", d, 0, row(1), api.OK)
	}
	d.Cut(3)
	writes(t, "P203: of three", d, 0, row(2), api.OK)
	writes(t, "P203: of three", d, 0, row(3), api.OK)
	d.Cut(2)
	writes(t, "P203: counted anew", d, 0, row(4), api.OK)
	writes(t, "P203: counted anew", d, 0, row(5), api.OK)
	writes(t, "P203: counted anew", d, 0, row(6), api.ErrDead)
	counts(t, "P203: counted anew", d, true, 13)

	d = made(t, 2)
	d.Cut(9)
	d.Cut(0)
	writes(t, "P203: the lesser said last", d, 0, row(1), api.ErrDead)
	d = made(t, 2)
	d.Cut(1)
	writes(t, "P203: of one", d, 0, row(1), api.OK)
	d.Cut(1)
	writes(t, "P203: of one more", d, 0, row(2), api.OK)
	writes(t, "P203: behind it", d, 0, row(3), api.ErrDead)
	counts(t, "P203: behind it", d, true, 2)
}

func TestP203CutWhileItIsGone(t *testing.T) {
	for _, n := range []int{-1, 0, 1, 7} {
		d := made(t, 2)
		d.Cut(0)
		writes(t, "P203", d, 0, row(1), api.ErrDead)
		d.Cut(n)
		counts(t, "P203: Cut brings no power", d, true, 0)
		readFails(t, "P203: Cut brings no power", d, 0, api.ErrDead)
		writes(t, "P203: Cut brings no power", d, 0, row(1), api.ErrDead)
		d.Start()
		for i := range 20 {
			writes(t, "P203: Start: it will not go", d, i%2, row(byte(i)), api.OK)
		}
		counts(t, "P203: Start: it will not go", d, false, 20)
	}
}

func TestP203Start(t *testing.T) {
	d := made(t, 2)
	d.Start()
	counts(t, "P203: Start of what is there", d, false, 0)
	writes(t, "P203: Start of what is there", d, 0, row(1), api.OK)
	for _, n := range []int{0, 1, 2} {
		d.Cut(n)
		d.Start()
		for i := range 5 {
			writes(t, "P203: Start ahead of the cut", d, 0, row(byte(i)), api.OK)
		}
	}
	counts(t, "P203: Start ahead of the cut", d, false, 16)
	d.Cut(1)
	writes(t, "P203: cut again", d, 0, row(8), api.OK)
	writes(t, "P203: cut again", d, 0, row(9), api.ErrDead)
	d.Start()
	d.Start()
	holds(t, "P204: Start twice", d, 0, row(8))
	d.Cut(0)
	writes(t, "P203: and again", d, 0, row(9), api.ErrDead)
	counts(t, "P202: Writes() in all", d, true, 17)
}

func TestP204StaysThroughCutsAndStarts(t *testing.T) {
	d := made(t, 8)
	want := make([][]byte, 8)
	for n := range want {
		want[n] = row(0)
	}
	done := 0
	for round := range 40 {
		d.Cut(round % 5)
		for i := range 5 {
			n, b := (round*3+i)%8, noise(uint32(round*5+i))
			if i >= round%5 {
				writes(t, "P203: gone", d, n, b, api.ErrDead)
				continue
			}
			writes(t, "P203: there", d, n, b, api.OK)
			want[n] = b
			done++
		}
		counts(t, "P203: a round", d, true, done)
		d.Start()
		for n := range want {
			holds(t, "P204: a round", d, n, want[n])
		}
	}
}

func TestP2HandedInIsNeitherChangedNorKept(t *testing.T) {
	room := append(append(row(1), noise(3)...), row(2)...)
	before := bytes.Clone(room)
	d := made(t, 2)
	in := room[api.Block : 2*api.Block]
	writes(t, "P2", d, 0, in, api.OK)
	writes(t, "P2", d, 1, in[:9], api.ErrArg)
	d.Cut(0)
	writes(t, "P2", d, 1, in, api.ErrDead)
	d.Start()
	if !bytes.Equal(room, before) {
		t.Error("P2: bytes that were handed in, or those beside them, have changed")
	}
	clear(room)
	holds(t, "P2: changed behind Write", d, 0, noise(3))
	writes(t, "P2: one buffer for two blocks", d, 1, in, api.OK)
	copy(in, row(4))
	holds(t, "P2: one buffer for two blocks", d, 1, row(0))
	holds(t, "P2: one buffer for two blocks", d, 0, noise(3))
}

// spoil writes over a list and its spare room.
func spoil(b []byte) {
	b = b[:cap(b)]
	for i := range b {
		b[i] ^= 0xA5
	}
}

func TestP2WhatReadAnswersIsNew(t *testing.T) {
	d := made(t, 3)
	writes(t, "P2", d, 1, noise(3), api.OK)
	for n, want := range [][]byte{row(0), noise(3), row(0)} {
		a, _ := d.Read(n)
		b, _ := d.Read(n)
		if len(a) != api.Block {
			t.Fatalf("P202: Read(%d): %d bytes", n, len(a))
		}
		spoil(a)
		if !bytes.Equal(b, want) {
			t.Errorf("P2: two answers share memory: block %d", n)
		}
		spoil(b)
		holds(t, "P2: an answer was changed", d, n, want)
		kept, _ := d.Read(n)
		writes(t, "P2", d, n, row(6), api.OK)
		if !bytes.Equal(kept, want) {
			t.Errorf("P2: a write changed an answer: block %d", n)
		}
		holds(t, "P202", d, n, row(6))
	}
	holds(t, "P2: a block that was never written", made(t, 1), 0, row(0))
}

func TestP7DisksBesideOneAnother(t *testing.T) {
	a, b := made(t, 3), made(t, 4)
	writes(t, "P7", a, 0, row(1), api.OK)
	holds(t, "P7: the other one's blocks", b, 0, row(0))
	a.Cut(0)
	writes(t, "P7: the other one's power", b, 0, row(2), api.OK)
	writes(t, "P7", a, 1, row(3), api.ErrDead)
	counts(t, "P7: the other one's power", b, false, 1)
	writes(t, "P7: a block that the other one has not", b, 3, row(2), api.OK)
	counts(t, "P7", a, true, 1)
	b.Start()
	counts(t, "P7: the other one's Start", a, true, 1)
	a.Start()
	holds(t, "P7", a, 0, row(1))
	holds(t, "P7", b, 0, row(2))
	readFails(t, "P7: the other one's blocks", a, 3, api.ErrArg)
	if a.Blocks() != 3 || b.Blocks() != 4 {
		t.Errorf("P7: Blocks() %d, %d", a.Blocks(), b.Blocks())
	}
}

// plain is a disk word by word: all blocks lie there, and the writes till the power goes are counted down.
type plain struct {
	blocks [][]byte
	dead   bool
	goes   bool
	left   int
	done   int
}

func (p *plain) write(n int, b []byte) api.Errno {
	switch {
	case p.dead:
		return api.ErrDead
	case n < 0 || n >= len(p.blocks) || len(b) != api.Block:
		return api.ErrArg
	case p.goes && p.left == 0:
		p.dead = true
		return api.ErrDead
	}
	p.left--
	p.done++
	p.blocks[n] = b
	return api.OK
}

func (p *plain) readErr(n int) api.Errno {
	switch {
	case p.dead:
		return api.ErrDead
	case n < 0 || n >= len(p.blocks):
		return api.ErrArg
	}
	return api.OK
}

// FuzzCalls takes two bytes a call: which, and its number.
func FuzzCalls(f *testing.F) {
	f.Add([]byte{})
	f.Add([]byte{0, 1, 0, 2, 2, 1, 0, 3, 0, 4, 1, 1, 3, 0, 1, 3})
	f.Add([]byte{2, 0, 2, 255, 0, 1, 2, 2, 0, 9, 0, 200, 4, 1, 0, 1, 0, 2, 2, 3, 1, 2, 3, 0})
	long := make([]byte, 4000)
	seed := uint32(5)
	for i := range long {
		seed = seed*1664525 + 1013904223
		long[i] = byte(seed >> 24)
	}
	f.Add(long)
	f.Fuzz(func(t *testing.T, calls []byte) {
		const blocks = 6
		d := made(t, blocks)
		p := &plain{}
		for range blocks {
			p.blocks = append(p.blocks, row(0))
		}
		for i := 0; i+1 < len(calls); i += 2 {
			n := int(int8(calls[i+1])) % 8
			switch calls[i] % 8 {
			case 0, 1, 2:
				b := noise(uint32(i))
				writes(t, "P202, P203", d, n, b, p.write(n, b))
			case 3:
				b := noise(uint32(i))[:calls[i+1]]
				writes(t, "P202, P203", d, n, b, p.write(n, b))
			case 4, 5:
				d.Cut(n)
				p.goes, p.left = n >= 0, n
			case 6:
				d.Start()
				p.dead, p.goes = false, false
			}
			counts(t, "P202, P203", d, p.dead, p.done)
			if e := p.readErr(n); e != api.OK {
				readFails(t, "P202", d, n, e)
			} else {
				holds(t, "P202, P204", d, n, p.blocks[n])
			}
		}
	})
}
