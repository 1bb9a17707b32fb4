package tree

import (
	"slices"

	"toll/api"
)

// edit has the leaf of a key changed, and makes all nodes on the way to it anew.
func (t *Tree) edit(key string, change func(leaf) leaf) {
	level := max(1, t.Height())
	t.now.root = t.rootOf(t.edited(t.now.root, key, change), level)
}

// edited is what stands in a node's stead when its leaf was changed. It has no place yet: it may be too long for one, or too short.
func (t *Tree) edited(at *place, key string, change func(leaf) leaf) node {
	n := t.take(at)
	if b, is := n.(branch); is {
		i := b.find(key)
		return t.settled(b, i, t.edited(b[i].at, key, change))
	}
	l, _ := n.(leaf)
	return change(l)
}

// settled is a branch with another node in the i-th one's stead, or, where that one is short, in its and its neighbour's.
func (t *Tree) settled(b branch, i int, n node) branch {
	level := b[i].at.level
	from, to := i, i+1
	switch {
	case i > 0 && t.isShort(n, b[i-1].at):
		from--
		n = join(t.take(b[from].at), n)
	case to < len(b) && t.isShort(n, b[to].at):
		n = join(n, t.take(b[to].at))
		to++
	}
	return slices.Concat(b[:from], t.placed(n, level, b[from].low), b[to:])
}

// isShort tells whether a node is to be joined with its neighbour. Below a quarter it always is, and cut again if need be: so no leaf is left without keys, and no branch with one place alone, which would make the tree too high.
func (t *Tree) isShort(n node, beside *place) bool {
	long := size(n)
	if long < room/4 {
		return true
	}
	return long < room/2 && long+size(t.nodeAt(beside)) <= room
}

// placed gives a node its place, or, where it is too long for a page, both halves of it. (Halves do: it is longer than a page by about a third of one at most, and no entry is longer than that third.)
func (t *Tree) placed(n node, level int, low string) branch {
	sizes := n.sizes()
	if total(sizes) <= room {
		return branch{{low, t.place(n, level)}}
	}
	left, right := n.cut(middle(sizes))
	return branch{{low, t.place(left, level)}, {right.low(), t.place(right, level)}}
}

// rootOf is the place of what stands at the top: of nothing, if there are no keys; of the only one below it, if there is but one; of a new branch, if it had to be cut.
func (t *Tree) rootOf(n node, level int) *place {
	switch n := n.(type) {
	case leaf:
		if len(n) == 0 {
			return nil
		}
	case branch:
		if len(n) == 1 {
			return n[0].at
		}
	}
	tops := t.placed(n, level, "")
	if len(tops) == 1 {
		return tops[0].at
	}
	return t.place(tops, level+1)
}

func (t *Tree) place(n node, level int) *place {
	t.now.fresh++
	return &place{level: level, node: n}
}

// take tells the node of a place that is the tree's no more.
func (t *Tree) take(at *place) node {
	n := t.nodeAt(at)
	switch {
	case at == nil:
	case at.page == 0:
		t.now.fresh--
	default:
		t.now.dropped = append(t.now.dropped, at.page)
	}
	return n
}

// write lays the fresh nodes at a place and below it into pages, the lower ones first: those above have their numbers.
func (t *Tree) write(at *place) api.Errno {
	if at == nil || at.page != 0 {
		return api.OK
	}
	n := t.nodeAt(at)
	if b, is := n.(branch); is {
		for _, k := range b {
			if e := t.write(k.at); e != api.OK {
				return e
			}
		}
	}
	page, e := t.pager.Alloc(encode(n, at.level))
	at.page = page
	return e
}
