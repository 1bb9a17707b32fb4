package txn

import (
	"slices"
	"strings"
	"sync"

	"toll/api"
)

const maxViews = 16 // that are open at once

// View is what was committed when it was taken.
type View struct {
	store  *Store
	*sight // nil: it shows nothing
}

// sight is what views show that are taken between the same two Commits: it is read once, for the first of them, and never changed.
type sight struct {
	once sync.Once
	all  []api.KV // rising
}

func (v *View) Get(key string) (string, bool) {
	if v.sight == nil {
		return "", false
	}
	return v.get(key)
}

func (v *View) Scan(lo, hi string, limit int) []api.KV {
	if v.sight == nil {
		return nil
	}
	return v.scan(lo, hi, limit)
}

// Close lets go what was read, if nobody looks any more.
func (v *View) Close() {
	if v.sight == nil {
		return
	}
	v.sight = nil
	v.store.views--
	if v.store.views == 0 {
		v.store.now = &sight{}
	}
}

func (s *sight) get(key string) (string, bool) {
	if i, is := s.find(key); is {
		return s.all[i].Value, true
	}
	return "", false
}

func (s *sight) scan(lo, hi string, limit int) []api.KV {
	from, _ := s.find(lo)
	to := len(s.all)
	if hi != "" {
		to, _ = s.find(hi)
	}
	found := s.all[from:max(from, to)]
	if limit >= 1 && limit < len(found) {
		found = found[:limit]
	}
	return slices.Clone(found)
}

// find tells where a key stands, or would stand, and whether it is there.
func (s *sight) find(key string) (int, bool) {
	return slices.BinarySearchFunc(s.all, key, func(kv api.KV, key string) int {
		return strings.Compare(kv.Key, key)
	})
}
