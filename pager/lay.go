package pager

import (
	"toll/api"
	"toll/sum"
)

// How it lies on the disk: the heads of both slots, the free maps of both slots, the pages. Commits take the slots by turns, so the last one's head and map stay as they are while the next ones are written.
const (
	slots     = 2
	minBlocks = 64
	mapBits   = 8 * api.Block // blocks that a block of the free map tells of
)

// slotOf tells where the Commit of that number lies.
func slotOf(commits int64) int { return int(commits & 1) }

func mapBlocks(blocks int) int { return (blocks + mapBits - 1) / mapBits }

func mapStart(slot, blocks int) int { return slots + slot*mapBlocks(blocks) }

func firstPage(blocks int) int { return mapStart(slots, blocks) }

// A page's block: how many bytes it has, and, behind the room for that, the bytes.
const bodyStart = api.Block - Body

func pageBlock(b []byte) []byte {
	block := make([]byte, api.Block)
	putNumber(block[:2], uint64(len(b)))
	copy(block[bodyStart:], b)
	return block
}

// pageBytes holds the length to Body, lest a block that no pager wrote made it panic.
func pageBytes(block []byte) []byte {
	end := bodyStart + int(min(number(block[:2]), Body))
	return block[bodyStart:end:end]
}

// A head's block: the sum of all behind it, the Commit's number, the root's length, the root.
const (
	sumEnd     = 4
	commitsEnd = sumEnd + 8
	rootStart  = commitsEnd + 1
	maxRoot    = 64
)

type head struct {
	commits int64 // done since the disk was new, with this one
	root    []byte
}

func (h head) block() []byte {
	block := make([]byte, api.Block)
	putNumber(block[sumEnd:commitsEnd], uint64(h.commits))
	block[commitsEnd] = byte(len(h.root))
	copy(block[rootStart:], h.root)
	putNumber(block[:sumEnd], uint64(sum.Crc(block[sumEnd:])))
	return block
}

// headOf tells the head of no Commit where the sum is wrong, as it is of noughts: no pager wrote that block.
func headOf(block []byte) head {
	if number(block[:sumEnd]) != uint64(sum.Crc(block[sumEnd:])) {
		return head{}
	}
	commits := int64(number(block[sumEnd:commitsEnd]))
	rootEnd := rootStart + int(block[commitsEnd])
	return head{commits: commits, root: block[rootStart:rootEnd]}
}

// putNumber fills all of b, its lowest byte first.
func putNumber(b []byte, n uint64) {
	for i := range b {
		b[i] = byte(n >> (8 * i))
	}
}

func number(b []byte) uint64 {
	n := uint64(0)
	for i, x := range b {
		n |= uint64(x) << (8 * i)
	}
	return n
}
