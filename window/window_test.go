package window_test

import (
	"math"
	"slices"
	"testing"

	"toll/api"
	"toll/window"
)

func TestP1201Kinds(t *testing.T) {
	if window.New != 0 || window.Known != 1 || window.Stale != 2 || api.IdemWindow != 12 {
		t.Fatal("P1201: a number is another one")
	}
}

func TestP1201Example(t *testing.T) {
	w := row(1, 2, 3, 4, 5, 6, 7, 8, 9, 10, 11, 12)
	w = isNoted(t, w, 20, of(20), row(2, 3, 4, 5, 6, 7, 8, 9, 10, 11, 12, 20))
	isStale(t, w, 1)
	isNew(t, w, 13)
}

func TestP1201AskOfNone(t *testing.T) {
	for _, id := range []int{math.MinInt, -1, 0, 1, 7, 1 << 40, math.MaxInt} {
		isNew(t, nil, id)
		isNew(t, []api.Entry{}, id)
	}
}

// TestP1201AskNotFull: of one, two, .. eleven: each is known, all else is new, below them too.
func TestP1201AskNotFull(t *testing.T) {
	for n := 1; n < api.IdemWindow; n++ {
		w := tens(n)
		for _, e := range w {
			isKnown(t, w, e.Id, e.Answer)
			isNew(t, w, e.Id-1, e.Id+1, e.Id+5)
		}
		isNew(t, w, math.MinInt, -10, -1, 0, 1, 5, 9, 10*n+10, 1<<40, math.MaxInt)
	}
}

// TestP1201AskFull: of twelve: each is known, what is below all of them is stale, what is between two or above all is new.
func TestP1201AskFull(t *testing.T) {
	w := tens(api.IdemWindow)
	for _, e := range w {
		isKnown(t, w, e.Id, e.Answer)
	}
	isStale(t, w, math.MinInt, -10, -1, 0, 1, 5, 8, 9)
	for _, e := range w {
		isNew(t, w, e.Id+1, e.Id+5, e.Id+9)
	}
	isNew(t, w, 130, 999, 1<<40, math.MaxInt)
}

// TestP1201AskBeside: in a window without gaps there is nothing between, in a full one the one below the least is stale, wherever it stands.
func TestP1201AskBeside(t *testing.T) {
	for _, from := range []int{-6, 0, 1, 2, 1000, 1<<40 - 11} {
		var w []api.Entry
		for i := range api.IdemWindow {
			isNew(t, w, from-1, from+i)
			w = isNoted(t, w, from+i, of(from+i), slices.Concat(w, row(from+i)))
		}
		for i := range api.IdemWindow {
			isKnown(t, w, from+i, of(from+i))
		}
		isStale(t, w, from-1)
		isNew(t, w, from+api.IdemWindow)
	}
}

// TestP1201AskFarIds: the least and the greatest number there are can stand in a window like all others.
func TestP1201AskFarIds(t *testing.T) {
	w := row(math.MinInt, -1, 0, math.MaxInt)
	for _, e := range w {
		isKnown(t, w, e.Id, e.Answer)
	}
	isNew(t, w, math.MinInt+1, -2, 1, math.MaxInt-1)
	w = row(math.MinInt, 1, 2, 3, 4, 5, 6, 7, 8, 9, 10, math.MaxInt)
	isKnown(t, w, math.MinInt, of(math.MinInt))
	isKnown(t, w, math.MaxInt, of(math.MaxInt))
	isNew(t, w, math.MinInt+1, 0, 11, math.MaxInt-1)
}

func TestP1201NoteNotFull(t *testing.T) {
	isNoted(t, nil, 5, of(5), row(5))
	isNoted(t, []api.Entry{}, 5, of(5), row(5))
	isNoted(t, row(5), 4, of(4), row(4, 5))
	isNoted(t, row(5), 6, of(6), row(5, 6))
	w := row(3, 5, 9)
	isNoted(t, w, 1, of(1), row(1, 3, 5, 9))
	isNoted(t, w, 2, of(2), row(2, 3, 5, 9))
	isNoted(t, w, 4, of(4), row(3, 4, 5, 9))
	isNoted(t, w, 6, of(6), row(3, 5, 6, 9))
	isNoted(t, w, 8, of(8), row(3, 5, 8, 9))
	isNoted(t, w, 10, of(10), row(3, 5, 9, 10))
	isNoted(t, w, 1<<40, of(1<<40), row(3, 5, 9, 1<<40))
}

// TestP1201NoteBecomesFull: the twelfth one, at each place: all of them stay, and from then on what is below is stale.
func TestP1201NoteBecomesFull(t *testing.T) {
	w := tens(api.IdemWindow - 1)
	for at := range api.IdemWindow {
		id := 10*at + 5
		isNew(t, w, 4, id)
		full := isNoted(t, w, id, of(id), slices.Insert(slices.Clone(w), at, row(id)...))
		for _, e := range w {
			isKnown(t, full, e.Id, e.Answer)
		}
		isStale(t, full, 4)
		isNew(t, full, 1000)
	}
}

// TestP1201NoteFull: the thirteenth one, at each place but ahead of all (there it is stale): the least one is gone, and stale.
func TestP1201NoteFull(t *testing.T) {
	w := tens(api.IdemWindow)
	for at := 1; at <= api.IdemWindow; at++ {
		id := 10*at + 5
		isNew(t, w, id)
		next := isNoted(t, w, id, of(id), slices.Insert(slices.Clone(w), at, row(id)...)[1:])
		isStale(t, next, 9, 10)
		for _, e := range w[1:] {
			isKnown(t, next, e.Id, e.Answer)
		}
	}
	next := isNoted(t, w, 11, of(11), slices.Concat(row(11), w[1:])) // it is the least one itself from now on
	isStale(t, next, 10)
	isNew(t, next, 12)
}

// TestP1201NoteEachPlace: into windows of none to twelve, at each place.
func TestP1201NoteEachPlace(t *testing.T) {
	for n := range api.IdemWindow + 1 {
		w := tens(n)
		for at := range n + 1 {
			id := 10*at + 3
			if n == api.IdemWindow && at == 0 {
				isStale(t, w, id)
				continue
			}
			isNew(t, w, id)
			want := slices.Insert(slices.Clone(w), at, row(id)...)
			isNoted(t, w, id, of(id), want[max(0, len(want)-api.IdemWindow):])
		}
	}
}

// TestP1201Answers: whatever an answer says, it is kept whole: errors as all others, and a statement too.
func TestP1201Answers(t *testing.T) {
	s := api.Statement{Name: "a", Term: 1, From: 2, To: 3, Granted: 4, Consumed: 5, Expired: 6, Rolled: 7, Over: 8}
	answers := []api.Answer{{}, {Left: 1}, {Over: 1}, {N: 1}, {Left: 5, Over: 6, N: 7}, {Left: 1 << 53, Over: 1 << 53, N: 1 << 53}, {Statement: s}, {Err: api.ErrArg, Left: 5, Over: 6, N: 7, Statement: s}}
	for e := api.OK; e <= api.ErrQuota; e++ {
		answers = append(answers, api.Answer{Err: e})
	}
	for n := range api.IdemWindow + 1 {
		for _, a := range answers {
			w := tens(n)
			id := 10*n + 1
			next := isNoted(t, w, id, a, slices.Concat(w, []api.Entry{{Id: id, Answer: a}})[max(0, n+1-api.IdemWindow):])
			isKnown(t, next, id, a)
			isNew(t, next, id+1)
		}
	}
}

// orders are many numbers in several orders: rising, falling, in leaps, from both ends, in heaps.
func orders() map[string]func(i int) int {
	return map[string]func(i int) int{
		"rising":         func(i int) int { return 3 * i },
		"falling":        func(i int) int { return 3 * (60 - i) },
		"leaps of 7":     func(i int) int { return 3 * (i * 7 % 61) },
		"leaps of 29":    func(i int) int { return 3 * (i * 29 % 61) },
		"leaps of 60":    func(i int) int { return 3 * (i * 60 % 61) },
		"both ends":      func(i int) int { return 90 + 3*(i%2*2-1)*i/2 },
		"heaps, falling": func(i int) int { return 60*(i/20) + 3*(20-i%20) },
		"again":          func(i int) int { return 3 * (i * i % 61) },
	}
}

// TestP1202Orders: each is noted where it is new; the window has the greatest that were, each with its answer, and what has left is stale from then on.
func TestP1202Orders(t *testing.T) {
	for name, order := range orders() {
		var w []api.Entry
		var left []int
		l := ledger{}
		for i := range 61 {
			id := order(i)
			if k, _ := window.Ask(w, id); k != window.New {
				continue
			}
			before := w
			l[id] = of(id)
			w = isNoted(t, w, id, of(id), l.window())
			if len(before) == api.IdemWindow {
				left = append(left, before[0].Id)
			}
			isStale(t, w, left...)
			isAsTold(t, w, l)
		}
		if len(w) != api.IdemWindow || len(l) != len(w)+len(left) {
			t.Fatalf("P1202: %s: %d in the window, %d have left, %d were noted", name, len(w), len(left), len(l))
		}
	}
}

func isAsTold(t *testing.T, w []api.Entry, l ledger) {
	t.Helper()
	for id := -2; id < 190; id++ {
		k, a := l.ask(id)
		isAsked(t, w, id, k, a)
	}
}

// TestP1202Once: of requests that come again and again, each with another answer, the first answer stays (T5).
func TestP1202Once(t *testing.T) {
	var w []api.Entry
	first := ledger{}
	for i := range 2000 {
		id := i/25 + i*i%23
		k, a := window.Ask(w, id)
		was, is := first[id]
		switch {
		case k == window.New && is:
			t.Fatalf("P1202: %d is new a second time", id)
		case k == window.Known && a != was:
			t.Fatalf("P1202: %d: %+v, not its first answer %+v", id, a, was)
		case k == window.New:
			first[id] = api.Answer{N: i}
			w = isNoted(t, w, id, first[id], first.window())
		}
	}
	if len(first) < 80 {
		t.Fatalf("P1202: only %d were ever new", len(first))
	}
}
