package tree

import (
	"slices"
	"strings"
	"sync"

	"toll/api"
)

// place is where a node stands: on a page, from which it is decoded when it is first asked, or in memory alone till Commit lays it into one.
type place struct {
	page  int // 0: none yet
	level int // a leaf's is 1, a branch's one more than that of those below it
	once  sync.Once
	node  node
}

// node is a leaf or a branch. None is changed once it was made, so nodes may share memory.
type node interface {
	sizes() []int // bytes that each entry takes in a page
	low() string  // no key that is less stands in it, or below it
	cut(i int) (node, node)
	entries(b []byte) []byte // as bytes, behind b
}

// leaf has keys, rising, with their values.
type leaf []api.KV

// branch has the places of the nodes below it, rising: each has the keys from its low on, ahead of the next one's low. (No key is ahead of the empty one, the first low of all.)
type branch []kid

type kid struct {
	low string
	at  *place
}

// find tells where a key stands, or would stand, and whether it is there.
func (l leaf) find(key string) (int, bool) {
	return slices.BinarySearchFunc(l, key, func(kv api.KV, key string) int {
		return strings.Compare(kv.Key, key)
	})
}

// find tells below which one a key stands, if it is there; the first one for a key that is ahead of all, as a scan may begin ahead of the branch.
func (b branch) find(key string) int {
	i, is := slices.BinarySearchFunc(b, key, func(k kid, key string) int {
		return strings.Compare(k.low, key)
	})
	if is {
		return i
	}
	return max(0, i-1)
}

func (l leaf) put(kv api.KV) leaf {
	from, is := l.find(kv.Key)
	to := from
	if is {
		to++
	}
	return slices.Concat(l[:from], leaf{kv}, l[to:])
}

func (l leaf) del(key string) leaf {
	return slices.DeleteFunc(slices.Clone(l), func(kv api.KV) bool { return kv.Key == key })
}

func (l leaf) low() string { return l[0].Key }

func (b branch) low() string { return b[0].low }

func (l leaf) cut(i int) (node, node) { return l[:i], l[i:] }

func (b branch) cut(i int) (node, node) { return b[:i], b[i:] }

// join puts two nodes together that stand beside one another: they are of one kind.
func join(left, right node) node {
	switch l := left.(type) {
	case leaf:
		if r, is := right.(leaf); is {
			return slices.Concat(l, r)
		}
	case branch:
		if r, is := right.(branch); is {
			return slices.Concat(l, r)
		}
	}
	return left
}

func size(n node) int { return total(n.sizes()) }

func total(sizes []int) int {
	all := 0
	for _, n := range sizes {
		all += n
	}
	return all
}

// middle tells where to cut so that the greater part is as small as can be.
func middle(sizes []int) int {
	all := total(sizes)
	best, least, front := 0, all, 0
	for i, n := range sizes {
		if greater := max(front, all-front); greater < least {
			best, least = i, greater
		}
		front += n
	}
	return best
}
