package window_test

import (
	"maps"
	"slices"
	"testing"

	"toll/api"
	"toll/window"
)

// of is an answer whose every number tells whose it is; that of an even id is a good one, that of an odd one an error.
func of(id int) api.Answer {
	if id%2 != 0 {
		return api.Answer{Err: api.ErrQuota}
	}
	return api.Answer{Left: 1000 + id, Over: 2000 + id, N: 3000 + id}
}

// row is a window that has these ids.
func row(ids ...int) []api.Entry {
	var w []api.Entry
	for _, id := range ids {
		w = append(w, api.Entry{Id: id, Answer: of(id)})
	}
	return w
}

// tens is a window of n entries: 10, 20, 30 and so on.
func tens(n int) []api.Entry {
	var w []api.Entry
	for i := range n {
		w = append(w, row(10*(i+1))...)
	}
	return w
}

// ledger is the plain reading of the chapter: all that was ever noted, with its answer, in no list.
type ledger map[int]api.Answer

// bound is the least of the IdemWindow greatest ids; false, if there are fewer.
func (l ledger) bound() (int, bool) {
	ids := slices.Sorted(maps.Keys(l))
	if len(ids) < api.IdemWindow {
		return 0, false
	}
	return ids[len(ids)-api.IdemWindow], true
}

// window is the IdemWindow greatest ids, rising.
func (l ledger) window() []api.Entry {
	var w []api.Entry
	least, full := l.bound()
	for _, id := range slices.Sorted(maps.Keys(l)) {
		if !full || id >= least {
			w = append(w, api.Entry{Id: id, Answer: l[id]})
		}
	}
	return w
}

func (l ledger) ask(id int) (int, api.Answer) {
	least, full := l.bound()
	a, is := l[id]
	switch {
	case full && id < least:
		return window.Stale, api.Answer{}
	case is:
		return window.Known, a
	}
	return window.New, api.Answer{}
}

func isAsked(t *testing.T, w []api.Entry, id, kind int, a api.Answer) {
	t.Helper()
	was := slices.Clone(w)
	if k, got := window.Ask(w, id); k != kind || got != a {
		t.Fatalf("P1201: Ask(%+v, %d): %d, %+v, not %d, %+v", w, id, k, got, kind, a)
	}
	isKept(t, was, w)
}

func isKnown(t *testing.T, w []api.Entry, id int, a api.Answer) {
	t.Helper()
	isAsked(t, w, id, window.Known, a)
}

// isNew: nothing is told beside it (P4).
func isNew(t *testing.T, w []api.Entry, ids ...int) {
	t.Helper()
	for _, id := range ids {
		isAsked(t, w, id, window.New, api.Answer{})
	}
}

// isStale: nothing is told beside it (P4).
func isStale(t *testing.T, w []api.Entry, ids ...int) {
	t.Helper()
	for _, id := range ids {
		isAsked(t, w, id, window.Stale, api.Answer{})
	}
}

func isNoted(t *testing.T, w []api.Entry, id int, a api.Answer, want []api.Entry) []api.Entry {
	t.Helper()
	was := slices.Clone(w)
	got := window.Note(w, id, a)
	if !slices.Equal(got, want) {
		t.Fatalf("P1201: Note(%+v, %d, %+v): %+v, not %+v", w, id, a, got, want)
	}
	isKept(t, was, w)
	isKnown(t, got, id, a)
	return got
}

func isKept(t *testing.T, was, is []api.Entry) {
	t.Helper()
	if !slices.Equal(was, is) {
		t.Fatalf("P2: %+v became %+v", was, is)
	}
}
