package tree

import (
	"toll/api"
)

// nodeAt tells an empty leaf where there is no node, or the power went.
func (t *Tree) nodeAt(at *place) node {
	if at == nil {
		return leaf{}
	}
	at.once.Do(func() {
		if at.node == nil {
			at.node = t.read(at)
		}
	})
	return at.node
}

func (t *Tree) read(at *place) node {
	page, e := t.pager.Read(at.page)
	if e != api.OK {
		return leaf{}
	}
	return decode(page, at.level)
}

// leafOf is the one that has a key, if it is there.
func (t *Tree) leafOf(key string) leaf {
	at := t.now.root
	for {
		switch n := t.nodeAt(at).(type) {
		case branch:
			at = n[n.find(key)].at
		case leaf:
			return n
		}
	}
}

// walk hands on what stands at a place and below it, from lo on, till it is told to stop; it tells whether it was not.
func (t *Tree) walk(at *place, lo string, next func(api.KV) bool) bool {
	switch n := t.nodeAt(at).(type) {
	case branch:
		for _, k := range n[n.find(lo):] {
			if !t.walk(k.at, lo, next) {
				return false
			}
		}
	case leaf:
		from, _ := n.find(lo)
		for _, kv := range n[from:] {
			if !next(kv) {
				return false
			}
		}
	}
	return true
}
