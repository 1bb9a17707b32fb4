package book

import (
	"sync"
	"sync/atomic"

	"toll/api"
	"toll/disk"
	"toll/txn"
)

// store is what lasts of a book. It hides the transactions' own store, whose calls are none of the book's.
type store struct {
	disk  *disk.Disk
	once  sync.Once // guards the opening of txns
	txns  *txn.Store
	fault api.Errno    // of the opening
	puts  atomic.Int64 // records that were put since, and are committed
}

func (s *store) open() api.Errno {
	s.once.Do(func() { s.txns, s.fault = txn.Open(s.disk) })
	return s.fault
}

// begin refuses ahead of all else where the power went.
func (s *store) begin() (*tx, api.Errno) {
	if e := s.open(); e != api.OK {
		return nil, e
	}
	t, e := s.txns.Begin()
	if e != api.OK {
		return nil, e
	}
	return &tx{Tx: t}, api.OK
}

// ask lets a question see what is committed. It is asked in a transaction that does nothing, as a view would read all that there is.
func (s *store) ask(question func(*tx)) {
	t, e := s.begin()
	if e != api.OK {
		return
	}
	defer t.Abort()
	question(t)
}

// change does something in one transaction, if a check allows it, and there is room for whatever it may do.
func (s *store) change(check func(*tx) api.Errno, do func(*tx)) api.Errno {
	t, e := s.begin()
	if e != api.OK {
		return e
	}
	defer t.Abort() // behind its Commit that does nothing
	if e := check(t); e != api.OK {
		return e
	}
	if s.txns.Left() < api.TxnPageBound {
		return api.ErrDiskFull
	}
	do(t)
	if e := t.commit(); e != api.OK {
		return e
	}
	s.puts.Add(t.puts)
	return api.OK
}
