package txn

import (
	"slices"
	"strings"

	"toll/api"
)

// Tx is a transaction. It works in the store's tree, and keeps what was there ahead of it, for those who look meanwhile.
type Tx struct {
	store *Store // nil: it is over
	was   map[string]former
	full  bool // the tree had too little room once: it can only be aborted
}

// former is what was committed under a key.
type former struct {
	value string
	is    bool
}

func (t *Tx) Get(key string) (string, bool) {
	if t.isOver() {
		return "", false
	}
	return t.store.tree.Get(key)
}

func (t *Tx) Put(key, value string) api.Errno {
	if t.isOver() {
		return api.ErrOver
	}
	return t.change(key, func() api.Errno { return t.store.tree.Put(key, value) })
}

func (t *Tx) Del(key string) api.Errno {
	if t.isOver() {
		return api.ErrOver
	}
	return t.change(key, func() api.Errno { return t.store.tree.Del(key) })
}

func (t *Tx) Scan(lo, hi string, limit int) []api.KV {
	if t.isOver() {
		return nil
	}
	return t.store.tree.Scan(lo, hi, limit)
}

func (t *Tx) Commit() api.Errno {
	if t.isOver() {
		return api.ErrOver
	}
	if e := t.commit(); e != api.OK {
		t.Abort()
		return e
	}
	if len(t.was) > 0 {
		t.store.commits.Add(1)
		t.store.now = &sight{}
	}
	t.end()
	return api.OK
}

func (t *Tx) Abort() {
	if t.isOver() {
		return
	}
	t.store.tree.Abort()
	t.end()
}

func (t *Tx) isOver() bool { return t.store == nil }

func (t *Tx) end() {
	t.store.tx = nil
	*t = Tx{}
}

func (t *Tx) commit() api.Errno {
	switch {
	case t.store.isDead():
		return api.ErrDead
	case t.full:
		return api.ErrDiskFull
	}
	return t.store.tree.Commit()
}

// change does something to a key, and keeps what was committed under it.
func (t *Tx) change(key string, do func() api.Errno) api.Errno {
	value, is := t.store.tree.Get(key)
	e := do()
	if e == api.ErrDiskFull {
		t.full = true
	}
	if e != api.OK {
		return e
	}
	if _, known := t.was[key]; !known {
		t.was[strings.Clone(key)] = former{value, is}
	}
	return api.OK
}

// undone is all that the tree has, with what the transaction did taken back.
func (t *Tx) undone(all []api.KV) []api.KV {
	all = slices.DeleteFunc(all, func(kv api.KV) bool {
		_, changed := t.was[kv.Key]
		return changed
	})
	for key, old := range t.was {
		if old.is {
			all = append(all, api.KV{Key: key, Value: old.value})
		}
	}
	slices.SortFunc(all, func(a, b api.KV) int { return strings.Compare(a.Key, b.Key) })
	return all
}
