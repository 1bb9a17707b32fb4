// Package sum: sums of bytes. See doc/01-sum.md.
package sum

import (
	"sync"
)

// polynomial is CRC-32C's with its bits turned, so that a byte's lowest bit goes first.
const polynomial = 0x82F63B78

func Crc(b []byte) uint32 {
	s := New()
	s.Add(b)
	return s.Now()
}

// Sum is one that bytes are added to.
type Sum struct {
	once  sync.Once
	table [256]uint32 // what the eight bits of a byte come to
	crc   uint32      // of all that were added
}

func New() *Sum { return &Sum{} }

func (s *Sum) Add(b []byte) {
	s.once.Do(s.makeTable)
	rest := ^s.crc
	for _, x := range b {
		rest = s.table[byte(rest)^x] ^ rest>>8
	}
	s.crc = ^rest
}

func (s *Sum) Now() uint32 { return s.crc }

// makeTable works out the entries of single bits alone and adds up the others from them: each Crc makes a table of its own, so it must cost little beside the bytes of a block.
func (s *Sum) makeTable() {
	rest := uint32(1)
	for bit := 128; bit > 0; bit /= 2 {
		rest = step(rest)
		for known := 0; known < len(s.table); known += 2 * bit {
			s.table[known+bit] = s.table[known] ^ rest
		}
	}
}

// step divides one bit further.
func step(rest uint32) uint32 {
	if rest&1 == 0 {
		return rest >> 1
	}
	return rest>>1 ^ polynomial
}
