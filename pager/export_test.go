package pager

import (
	"toll/api"
	"toll/sum"
)

// Counts tells how many blocks the pager read and wrote: no face shows it.
func (p *Pager) Counts() (reads, writes int64) { return p.reads.Load(), p.writes.Load() }

// HeadBlock is a head with a sum that is right and numbers that no pager writes.
func HeadBlock(commits uint64, rootLen int) []byte {
	block := make([]byte, api.Block)
	putNumber(block[sumEnd:commitsEnd], commits)
	block[commitsEnd] = byte(rootLen)
	putNumber(block[:sumEnd], uint64(sum.Crc(block[sumEnd:])))
	return block
}
