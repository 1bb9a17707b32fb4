package window_test

import (
	"math"
	"slices"
	"testing"

	"toll/api"
	"toll/window"
)

var spare = api.Entry{Id: -7, Answer: api.Answer{Err: -7, Left: -7, Over: -7, N: -7}}

// roomy is a window with spare room behind it; what is answered beside it has all of that memory.
func roomy(w []api.Entry) (list, whole []api.Entry) {
	whole = slices.Concat(w, slices.Repeat([]api.Entry{spare}, 20))
	whole = whole[:cap(whole)]
	return whole[:len(w)], whole
}

// spoil writes over a window and over its spare room.
func spoil(w []api.Entry) {
	w = w[:cap(w)]
	for i := range w {
		w[i] = api.Entry{Id: -9, Answer: api.Answer{Err: -9, Left: -9, Over: -9, N: -9}}
	}
}

// calls are the calls, as what each answers of w, and of an id.
var calls = map[string]func(w []api.Entry, id int) []api.Entry{
	"Ask": func(w []api.Entry, id int) []api.Entry {
		k, a := window.Ask(w, id)
		return []api.Entry{{Id: k, Answer: a}}
	},
	"Note": func(w []api.Entry, id int) []api.Entry { return window.Note(w, id, of(id)) },
}

// ids are numbers at each place of tens(0) to tens(12), in them and beside them.
func ids() []int {
	var all []int
	for i := range 27 {
		all = append(all, 5*i)
	}
	return all
}

// TestP2HandedIn: what is handed in stays, its spare room too, and what was answered holds when it is spoiled.
func TestP2HandedIn(t *testing.T) {
	for name, call := range calls {
		for n := range api.IdemWindow + 1 {
			for _, id := range ids() {
				w, whole := roomy(tens(n))
				was := slices.Clone(whole)
				got := call(w, id)
				if !slices.Equal(whole, was) {
					t.Fatalf("P2: %s of %d entries, %d, changed them", name, n, id)
				}
				want := slices.Clone(got)
				spoil(whole)
				if !slices.Equal(got, want) || !slices.Equal(got, call(tens(n), id)) {
					t.Fatalf("P2: %s of %d entries, %d, keeps them", name, n, id)
				}
			}
		}
	}
}

// TestP2Answers: they are new: who writes over them, and over their spare room, changes nothing else.
func TestP2Answers(t *testing.T) {
	for name, call := range calls {
		for n := range api.IdemWindow + 1 {
			for _, id := range ids() {
				w, whole := roomy(tens(n))
				was := slices.Clone(whole)
				got, again := call(w, id), call(w, id)
				want := slices.Clone(again)
				spoil(got)
				if !slices.Equal(whole, was) {
					t.Fatalf("P2: %s of %d entries, %d, answers what was handed in", name, n, id)
				}
				if !slices.Equal(again, want) {
					t.Fatalf("P2: two answers of %s of %d entries, %d, share memory", name, n, id)
				}
			}
		}
	}
}

// TestP2Chain: each window of a row of them stays as it was, whatever becomes of the others.
func TestP2Chain(t *testing.T) {
	var made, want [][]api.Entry
	var w []api.Entry
	for i := range 40 {
		w = window.Note(w, 10*i, of(10*i))
		made, want = append(made, w), append(want, slices.Clone(w))
	}
	for i := range made {
		spoil(made[i])
		for j := i + 1; j < len(made); j++ {
			if !slices.Equal(made[j], want[j]) {
				t.Fatalf("P2: windows %d and %d share memory", i, j)
			}
		}
	}
}

// TestP3Again: nothing is kept from call to call, whatever was asked and noted in between.
func TestP3Again(t *testing.T) {
	short, full := row(3, 9), tens(api.IdemWindow)
	for range 3 {
		isNew(t, short, 5)
		isNoted(t, short, 5, of(5), row(3, 5, 9))
		isNew(t, short, 5)
		isStale(t, full, 5)
		isNoted(t, full, 300, of(300), slices.Concat(full[1:], row(300)))
		isKnown(t, full, 10, of(10))
		isNew(t, full, 300)
	}
}

// TestP1Wild: entries that stand in no order, or twice, or are too many; numbers that are none; notes of what is not new: no call panics, and what is handed in stays.
func TestP1Wild(t *testing.T) {
	wild := []int{math.MinInt, math.MinInt + 1, -1 << 40, -1, 0, 1, 5, 1 << 40, math.MaxInt - 1, math.MaxInt}
	for _, a := range wild {
		for _, b := range wild {
			for _, n := range []int{0, 1, 7, 8, 9, 30} {
				w := slices.Concat(row(a, b, 5, a, b), tens(n))
				was := slices.Clone(w)
				for _, id := range wild {
					window.Ask(w, id)
					window.Note(w, id, api.Answer{Err: api.Errno(a), Left: b, Over: id, N: a})
				}
				isKept(t, was, w)
			}
		}
	}
	for n := range 40 {
		w := tens(n)
		for id := range 10 * (n + 2) {
			window.Ask(w, id)
			window.Note(w, id, of(id))
		}
		isKept(t, tens(n), w)
	}
}

// TestP1Many: a list that is far longer than any window.
func TestP1Many(t *testing.T) {
	w := tens(100000)
	was := slices.Clone(w)
	for _, id := range []int{-1, 10, 500005, 1000000, 1000001} {
		window.Ask(w, id)
		window.Note(w, id, of(id))
	}
	isKept(t, was, w)
}

// FuzzWindows asks and notes as its bytes say, and holds all that is answered against all that was ever noted.
func FuzzWindows(f *testing.F) {
	f.Add([]byte{1, 2, 3, 4, 5, 6, 7, 8, 9, 10, 11, 12, 20, 1, 13, 20})
	f.Add([]byte{200, 190, 180, 170, 160, 150, 140, 130, 120, 110, 100, 90, 80, 95, 80, 90})
	f.Add([]byte{0, 0, 127, 128, 255, 0})
	f.Fuzz(func(t *testing.T, b []byte) {
		var w []api.Entry
		l := ledger{}
		for i, x := range b {
			id := int(int8(x))
			k, a := l.ask(id)
			isAsked(t, w, id, k, a)
			if k == window.New {
				l[id] = api.Answer{Err: api.Errno(i % 25), N: i}
				w = isNoted(t, w, id, l[id], l.window())
			}
		}
		for id := -129; id < 129; id++ {
			k, a := l.ask(id)
			isAsked(t, w, id, k, a)
		}
	})
}
