package hold_test

import (
	"maps"
	"slices"
	"testing"

	"toll/api"
	"toll/hold"
)

// one is a hold whose every number tells whose it is.
func one(id, parts int) api.Hold {
	h := api.Hold{Id: id, Over: 1000 + id, Until: 10 * id}
	for i := range parts {
		h.Parts = append(h.Parts, api.Part{Lot: 100*id + i, N: 7*id + i})
	}
	return h
}

// row is a hold of each Id, with none, one or more parts in turn.
func row(ids ...int) []api.Hold {
	var l []api.Hold
	for i, id := range ids {
		l = append(l, one(id, i%4))
	}
	return l
}

// clone shares nothing with l.
func clone(l []api.Hold) []api.Hold {
	c := slices.Clone(l)
	for i := range c {
		c[i].Parts = slices.Clone(c[i].Parts)
	}
	return c
}

func alike(a, b api.Hold) bool {
	return a.Id == b.Id && a.Over == b.Over && a.Until == b.Until && slices.Equal(a.Parts, b.Parts)
}

func sameList(a, b []api.Hold) bool {
	return slices.EqualFunc(a, b, alike)
}

// shelf is the plain reading of the chapter: holds by their Id, in no list.
type shelf map[int]api.Hold

// list is all that fit, by their Id, rising.
func (s shelf) list(fits func(api.Hold) bool) []api.Hold {
	var l []api.Hold
	for _, id := range slices.Sorted(maps.Keys(s)) {
		if fits(s[id]) {
			l = append(l, s[id])
		}
	}
	return l
}

func isTotal(t *testing.T, h api.Hold, want int) {
	t.Helper()
	if n := hold.Total(h); n != want {
		t.Fatalf("P1101: Total(%+v): %d, not %d", h, n, want)
	}
}

func isFound(t *testing.T, l []api.Hold, want api.Hold) {
	t.Helper()
	if h, is := hold.Find(l, want.Id); !is || !alike(h, want) {
		t.Fatalf("P1101: Find(%+v, %d): %+v, %t, not %+v", l, want.Id, h, is, want)
	}
}

// isMissing: nothing is found, and nothing is told beside it (P4).
func isMissing(t *testing.T, l []api.Hold, id int) {
	t.Helper()
	if h, is := hold.Find(l, id); is || !alike(h, api.Hold{}) {
		t.Fatalf("P1101: Find(%+v, %d): %+v, %t, not none", l, id, h, is)
	}
}

func isPut(t *testing.T, l []api.Hold, h api.Hold, want []api.Hold) []api.Hold {
	t.Helper()
	was := clone(l)
	got := hold.Put(l, h)
	if !sameList(got, want) {
		t.Fatalf("P1101: Put(%+v, %+v): %+v, not %+v", l, h, got, want)
	}
	isKept(t, was, l)
	isFound(t, got, h)
	return got
}

func isDropped(t *testing.T, l []api.Hold, id int, want []api.Hold) []api.Hold {
	t.Helper()
	was := clone(l)
	got := hold.Drop(l, id)
	if !sameList(got, want) {
		t.Fatalf("P1101: Drop(%+v, %d): %+v, not %+v", l, id, got, want)
	}
	isKept(t, was, l)
	isMissing(t, got, id)
	return got
}

func isDue(t *testing.T, l []api.Hold, now int, want []api.Hold) {
	t.Helper()
	was := clone(l)
	if got := hold.Due(l, now); !sameList(got, want) {
		t.Fatalf("P1101: Due(%+v, %d): %+v, not %+v", l, now, got, want)
	}
	isKept(t, was, l)
}

func isKept(t *testing.T, was, is []api.Hold) {
	t.Helper()
	if !sameList(was, is) {
		t.Fatalf("P2: %+v became %+v", was, is)
	}
}
