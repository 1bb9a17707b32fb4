package sum_test

import (
	"bytes"
	"hash/crc32"
	"testing"

	"toll/sum"
)

// bitwise is P101 word by word: no table, a bit at a time.
func bitwise(b []byte) uint32 {
	rest := ^uint32(0)
	for _, x := range b {
		rest ^= uint32(x)
		for range 8 {
			low := rest & 1
			rest >>= 1
			if low == 1 {
				rest ^= 0x82F63B78
			}
		}
	}
	return ^rest
}

// noise makes n bytes, the same ones each time.
func noise(n int, seed uint32) []byte {
	b := make([]byte, n)
	for i := range b {
		seed = seed*1664525 + 1013904223
		b[i] = byte(seed >> 24)
	}
	return b
}

// counting makes 32 bytes, from first on, each so much more than the one ahead.
func counting(first, more int) []byte {
	b := make([]byte, 32)
	for i := range b {
		b[i] = byte(first + i*more)
	}
	return b
}

func same(t *testing.T, what string, got, want uint32) {
	t.Helper()
	if got != want {
		t.Errorf("%s: %08X, not %08X", what, got, want)
	}
}

func TestP101CrcOfKnownBytes(t *testing.T) {
	for _, c := range []struct {
		what string
		b    []byte
		want uint32
	}{
		{"no list", nil, 0},
		{"an empty list", []byte{}, 0},
		{"the chapter's example", []byte("123456789"), 0xE3069283},
		{"a", []byte("a"), 0xC1D04330},
		{"abc", []byte("abc"), 0x364B3FB7},
		{"one nought", []byte{0}, 0x527D5351},
		{"32 noughts (RFC 3720)", make([]byte, 32), 0x8A9136AA},
		{"32 times FF (RFC 3720)", bytes.Repeat([]byte{0xFF}, 32), 0x62A8AB43},
		{"00 to 1F (RFC 3720)", counting(0, 1), 0x46DD794E},
		{"1F to 00 (RFC 3720)", counting(31, -1), 0x113FDB5C},
	} {
		same(t, "P101: Crc of "+c.what, sum.Crc(c.b), c.want)
		s := sum.New()
		s.Add(c.b)
		same(t, "P101: Now of "+c.what, s.Now(), c.want)
	}
}

func TestP101CrcOfEachByte(t *testing.T) {
	for x := range 256 {
		b := []byte{byte(x)}
		same(t, "P101: one byte", sum.Crc(b), bitwise(b))
		b = []byte{byte(x), 0, 0xFF, byte(x)}
		same(t, "P101: four bytes", sum.Crc(b), bitwise(b))
	}
}

func TestP101CrcOfEachLength(t *testing.T) {
	castagnoli := crc32.MakeTable(crc32.Castagnoli)
	all := noise(1100, 7)
	for n := range len(all) + 1 {
		same(t, "P101: by bits", sum.Crc(all[:n]), bitwise(all[:n]))
		same(t, "P101: by the library", sum.Crc(all[:n]), crc32.Checksum(all[:n], castagnoli))
	}
	long := noise(1<<21+3, 11)
	same(t, "P101: long", sum.Crc(long), crc32.Checksum(long, castagnoli))
}

func TestP101NowOfNothing(t *testing.T) {
	s := sum.New()
	same(t, "P101: New().Now()", s.Now(), 0)
	s.Add(nil)
	same(t, "P101: no list was added", s.Now(), 0)
	s.Add([]byte{})
	same(t, "P101: an empty list was added", s.Now(), 0)
	s.Add([]byte("123456789"))
	same(t, "P101: bytes behind nothing", s.Now(), 0xE3069283)
	s.Add(nil)
	s.Add([]byte{})
	same(t, "P101: nothing behind bytes", s.Now(), 0xE3069283)
}

func TestP101NoughtsCount(t *testing.T) {
	seen := map[uint32]int{}
	for n := range 64 {
		c := sum.Crc(make([]byte, n))
		if m, is := seen[c]; is {
			t.Errorf("P101: %d and %d noughts have one Crc", m, n)
		}
		seen[c] = n
	}
}

func TestP102PiecesOfOneLength(t *testing.T) {
	all := noise(600, 3)
	want := bitwise(all)
	for n := 1; n <= len(all); n++ {
		s := sum.New()
		for b := all; len(b) > 0; b = b[min(n, len(b)):] {
			s.Add(b[:min(n, len(b))])
		}
		same(t, "P102: pieces of one length", s.Now(), want)
	}
}

func TestP102EveryWayToCut(t *testing.T) {
	all := []byte("123456789")
	for cuts := range 1 << (len(all) - 1) {
		s := sum.New()
		from := 0
		for i := 1; i <= len(all); i++ {
			if i == len(all) || cuts>>(i-1)&1 == 1 {
				s.Add(all[from:i])
				from = i
			}
		}
		same(t, "P102: every way to cut", s.Now(), 0xE3069283)
	}
}

func TestP102AskedBetween(t *testing.T) {
	all := noise(300, 5)
	s := sum.New()
	for i := range all {
		same(t, "P102: ahead of a piece", s.Now(), bitwise(all[:i]))
		s.Add(all[i : i+1])
		same(t, "P102: behind it", s.Now(), bitwise(all[:i+1]))
		same(t, "P3: asked again", s.Now(), bitwise(all[:i+1]))
	}
}

func TestP2HandedInIsNotChanged(t *testing.T) {
	room := noise(64, 9)
	before := bytes.Clone(room)
	sum.Crc(room[8:40])
	s := sum.New()
	s.Add(room[8:40])
	s.Add(room[16:24])
	s.Now()
	if !bytes.Equal(room, before) {
		t.Error("P2: bytes that were handed in, or those beside them, have changed")
	}
}

func TestP2HandedInIsNotKept(t *testing.T) {
	b := []byte("12345")
	s := sum.New()
	s.Add(b)
	copy(b, "6789x")
	same(t, "P2: changed behind Add", s.Now(), bitwise([]byte("12345")))
	s.Add(b[:4])
	clear(b)
	same(t, "P2: one buffer for all pieces", s.Now(), 0xE3069283)
}

func TestP7SumsBesideOneAnother(t *testing.T) {
	one, two := noise(200, 13), noise(200, 17)
	a, b := sum.New(), sum.New()
	for i := range one {
		a.Add(one[i : i+1])
		same(t, "P7: the other one's byte counts", b.Now(), bitwise(two[:i]))
		b.Add(two[i : i+1])
		same(t, "P7: the other one's byte counts", a.Now(), bitwise(one[:i+1]))
		same(t, "P7: Crc amid sums", sum.Crc(one[:i]), bitwise(one[:i]))
	}
	same(t, "P7: a new one beside used ones", sum.New().Now(), 0)
}

func FuzzPieces(f *testing.F) {
	f.Add([]byte(""), 0)
	f.Add([]byte("123456789"), 4)
	f.Fuzz(func(t *testing.T, b []byte, cut int) {
		cut = max(0, min(cut, len(b)))
		s := sum.New()
		s.Add(b[:cut])
		s.Add(b[cut:])
		same(t, "P101", sum.Crc(b), bitwise(b))
		same(t, "P102", s.Now(), bitwise(b))
	})
}

func BenchmarkCrcOfABlock(b *testing.B) {
	block := noise(512, 1)
	for b.Loop() {
		sum.Crc(block)
	}
}
