package pager

import (
	"math/bits"

	"toll/api"
)

const wordBits = 64

// bitmap has a bit for each block that a disk may have: set, where it is taken.
type bitmap [api.MaxPages / wordBits]uint64

func (m *bitmap) isTaken(n int) bool { return m[n/wordBits]>>(n%wordBits)&1 == 1 }

func (m *bitmap) take(n int) { m[n/wordBits] |= 1 << (n % wordBits) }

func (m *bitmap) free(n int) { m[n/wordBits] &^= 1 << (n % wordBits) }

// takeAllBut takes what lies ahead of the pages, and what the disk does not have: neither can be allocated.
func (m *bitmap) takeAllBut(from, to int) {
	for n := range from {
		m.take(n)
	}
	for n := to; n < api.MaxPages; n++ {
		m.take(n)
	}
}

// firstFree tells the lowest one, or that there is none.
func (m *bitmap) firstFree() (int, bool) {
	for i, word := range m {
		if n := bits.TrailingZeros64(^word); n < wordBits {
			return i*wordBits + n, true
		}
	}
	return 0, false
}

func (m *bitmap) countFree() int {
	n := 0
	for _, word := range m {
		n += bits.OnesCount64(^word)
	}
	return n
}

// wordsInBlock is how many words go into a block, 8 bytes each.
const wordsInBlock = api.Block / 8

// block is the i-th of those that the bitmap fills.
func (m *bitmap) block(i int) []byte {
	block := make([]byte, api.Block)
	for j, word := range m[i*wordsInBlock : (i+1)*wordsInBlock] {
		putNumber(block[8*j:8*j+8], word)
	}
	return block
}

// addBlock takes all that the i-th block says is taken.
func (m *bitmap) addBlock(i int, block []byte) {
	for j := range wordsInBlock {
		m[i*wordsInBlock+j] |= number(block[8*j : 8*j+8])
	}
}
