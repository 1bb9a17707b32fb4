package tree

import (
	"toll/api"
	"toll/pager"
)

// A page: its node's level in a byte, and the entries up to its end.
const room = pager.Body - 1

// A leaf's entry: key and value, each with a byte ahead: how long it is. A branch's: low, likewise, and its page.
const (
	textHead   = 1
	numberSize = 4
)

func (l leaf) sizes() []int {
	sizes := make([]int, len(l))
	for i, kv := range l {
		sizes[i] = textHead + len(kv.Key) + textHead + len(kv.Value)
	}
	return sizes
}

func (b branch) sizes() []int {
	sizes := make([]int, len(b))
	for i, k := range b {
		sizes[i] = textHead + len(k.low) + numberSize
	}
	return sizes
}

func (l leaf) entries(b []byte) []byte {
	for _, kv := range l {
		b = appendText(b, kv.Key)
		b = appendText(b, kv.Value)
	}
	return b
}

func (b branch) entries(out []byte) []byte {
	for _, k := range b {
		out = appendText(out, k.low)
		out = appendNumber(out, k.at.page)
	}
	return out
}

func encode(n node, level int) []byte { return n.entries([]byte{byte(level)}) }

// decode tells an empty leaf of a page that no tree wrote there.
func decode(page []byte, level int) node {
	r := &reader{rest: page}
	if r.number(1) != level {
		return leaf{}
	}
	if level == 1 {
		return r.leaf()
	}
	if b := r.branch(level - 1); len(b) > 0 {
		return b
	}
	return leaf{}
}

// The root's bytes: none, if there are no keys; else its page, its level in a byte, and how many keys there are.
const rootSize = numberSize + 1 + numberSize

func (s state) bytes() []byte {
	if s.root == nil {
		return nil
	}
	b := appendNumber(nil, s.root.page)
	b = append(b, byte(s.root.level))
	return appendNumber(b, s.keys)
}

func stateOf(root []byte) state {
	if len(root) != rootSize {
		return state{}
	}
	r := &reader{rest: root}
	at := &place{page: r.number(numberSize), level: r.number(1)}
	return state{root: at, keys: r.number(numberSize)}
}

func appendText(b []byte, s string) []byte {
	b = append(b, byte(len(s)))
	return append(b, s...)
}

func appendNumber(b []byte, n int) []byte {
	return append(b, byte(n>>24), byte(n>>16), byte(n>>8), byte(n))
}

// reader takes bytes from the front; where there are fewer than it should take, those that there are: a page that no tree wrote must not make it panic.
type reader struct {
	rest []byte
}

func (r *reader) take(n int) []byte {
	n = min(n, len(r.rest))
	front := r.rest[:n]
	r.rest = r.rest[n:]
	return front
}

func (r *reader) number(size int) int {
	n := 0
	for _, x := range r.take(size) {
		n = n<<8 | int(x)
	}
	return n
}

func (r *reader) text() string { return string(r.take(r.number(textHead))) }

func (r *reader) leaf() leaf {
	var l leaf
	for len(r.rest) > 0 {
		l = append(l, api.KV{Key: r.text(), Value: r.text()})
	}
	return l
}

func (r *reader) branch(below int) branch {
	var b branch
	for len(r.rest) > 0 {
		low := r.text()
		b = append(b, kid{low, &place{page: r.number(numberSize), level: below}})
	}
	return b
}
