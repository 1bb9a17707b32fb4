package hold_test

import (
	"math"
	"slices"
	"testing"

	"toll/api"
	"toll/hold"
)

var sparePart = api.Part{Lot: -7, N: -7}

// spareHold is what stands in spare room: it has parts, so that one who takes it for a hold shows it.
func spareHold() api.Hold {
	return api.Hold{Id: -7, Parts: []api.Part{sparePart}, Over: -7, Until: -7}
}

// roomy is holds with spare room behind them and behind each one's parts; what is answered beside them has all of that memory.
func roomy(l []api.Hold) (list, whole []api.Hold) {
	for _, h := range l {
		n := len(h.Parts)
		h.Parts = slices.Concat(h.Parts, slices.Repeat([]api.Part{sparePart}, 9))[:n]
		whole = append(whole, h)
	}
	for range 20 {
		whole = append(whole, spareHold())
	}
	return whole[:len(l)], whole
}

// image is what stands in the whole room of a list and of its holds' parts.
func image(l []api.Hold) []api.Hold {
	c := slices.Clone(l[:cap(l)])
	for i, h := range c {
		c[i].Parts = slices.Clone(h.Parts[:cap(h.Parts)])
	}
	return c
}

// spoil writes over a list, over its holds' parts, and over the spare room of all of them.
func spoil(l []api.Hold) {
	l = l[:cap(l)]
	for i := range l {
		spoilParts(l[i].Parts)
		l[i] = api.Hold{Id: -9, Over: -9, Until: -9}
	}
}

func spoilParts(p []api.Part) {
	p = p[:cap(p)]
	for i := range p {
		p[i] = api.Part{Lot: -9, N: -9}
	}
}

// calls are the calls that answer holds: what each answers of l, and of an Id.
var calls = map[string]func(l []api.Hold, id int) []api.Hold{
	"Find": func(l []api.Hold, id int) []api.Hold {
		h, _ := hold.Find(l, id)
		return []api.Hold{h}
	},
	"Put":  func(l []api.Hold, id int) []api.Hold { return hold.Put(l, one(id, 3)) },
	"Drop": func(l []api.Hold, id int) []api.Hold { return hold.Drop(l, id) },
	"Due":  func(l []api.Hold, id int) []api.Hold { return hold.Due(l, 10*id) },
	"Total": func(l []api.Hold, id int) []api.Hold {
		for _, h := range l {
			hold.Total(h)
		}
		return nil
	},
}

// some are rows of no holds, one, and more.
func some() [][]api.Hold {
	return [][]api.Hold{nil, row(4), row(4, 6), {one(2, 3), one(4, 1), one(6, 0), one(7, 2)}, row(1, 2, 3, 4, 5, 6, 7, 8, 9, 10, 11, 12)}
}

// TestP2HandedIn: what is handed in stays, its spare room too, and what was answered holds when it is spoiled.
func TestP2HandedIn(t *testing.T) {
	for name, call := range calls {
		for _, r := range some() {
			for id := range 15 {
				l, whole := roomy(r)
				was := image(whole)
				got := call(l, id)
				if !sameList(image(whole), was) {
					t.Fatalf("P2: %s of %d holds, %d, changed them", name, len(r), id)
				}
				want := clone(got)
				spoil(whole)
				if !sameList(got, want) || !sameList(got, call(r, id)) {
					t.Fatalf("P2: %s of %d holds, %d, keeps them", name, len(r), id)
				}
			}
		}
	}
}

// TestP2Answers: they are new, also where nothing is done: who writes over them, and over their spare room, changes nothing else.
func TestP2Answers(t *testing.T) {
	for name, call := range calls {
		for _, r := range some() {
			for id := range 15 {
				l, whole := roomy(r)
				was := image(whole)
				got, again := call(l, id), call(l, id)
				want := clone(again)
				spoil(got)
				if !sameList(image(whole), was) {
					t.Fatalf("P2: %s of %d holds, %d, answers what was handed in", name, len(r), id)
				}
				if !sameList(again, want) {
					t.Fatalf("P2: two answers of %s of %d holds, %d, share memory", name, len(r), id)
				}
			}
		}
	}
}

// TestP2PutHold: the hold that is put, too, stays, its parts' spare room too, and none of its memory is the answer's.
func TestP2PutHold(t *testing.T) {
	for _, r := range some() {
		for id := range 15 {
			young, whole := roomy([]api.Hold{one(id, 3)})
			was := image(whole)
			got := hold.Put(r, young[0])
			if !sameList(image(whole), was) {
				t.Fatalf("P2: Put of %d into %d holds changed it", id, len(r))
			}
			again := hold.Put(r, young[0])
			spoil(again)
			if !sameList(image(whole), was) {
				t.Fatalf("P2: Put of %d into %d holds answers what was handed in", id, len(r))
			}
			spoil(whole)
			if h, _ := hold.Find(got, id); !alike(h, one(id, 3)) {
				t.Fatalf("P2: Put of %d into %d holds keeps its parts", id, len(r))
			}
		}
	}
}

// TestP2PartsApart: holds whose parts share memory when they are handed in do not when they are answered, nor does one's spare room.
func TestP2PartsApart(t *testing.T) {
	parts := []api.Part{{Lot: 1, N: 1}, {Lot: 2, N: 2}, {Lot: 3, N: 3}}
	l := []api.Hold{{Id: 2, Parts: parts}, {Id: 4, Parts: parts[:1]}, {Id: 6, Parts: parts[1:]}, {Id: 8, Parts: parts[:0]}}
	for _, got := range [][]api.Hold{hold.Put(l, api.Hold{Id: 5, Parts: parts[:2]}), hold.Put(l, api.Hold{Id: 4, Parts: parts}), hold.Drop(l, 9), hold.Drop(l, 4), hold.Due(l, 0)} {
		for i := range got {
			want := clone(got)
			want[i].Parts = nil
			spoilParts(got[i].Parts)
			got[i].Parts = nil
			if !sameList(got, want) {
				t.Fatalf("P2: parts of two holds of one answer share memory: %+v, not %+v", got, want)
			}
		}
	}
}

// TestP2NoParts: none and an empty list of parts are the same.
func TestP2NoParts(t *testing.T) {
	none, empty := []api.Hold{{Id: 3, Over: 1, Until: 2}}, []api.Hold{{Id: 3, Parts: []api.Part{}, Over: 1, Until: 2}}
	for name, call := range calls {
		for id := range 6 {
			if !sameList(call(none, id), call(empty, id)) {
				t.Fatalf("P2: %s tells no parts and an empty list of them apart", name)
			}
		}
	}
}

// TestP3Again: nothing is kept from call to call, whatever was asked in between.
func TestP3Again(t *testing.T) {
	l := row(3, 9)
	for range 3 {
		isMissing(t, l, 5)
		isPut(t, l, one(5, 3), []api.Hold{l[0], one(5, 3), l[1]})
		isDropped(t, l, 3, l[1:])
		isFound(t, l, l[0])
		isDue(t, l, 30, l[:1])
		isTotal(t, l[1], 1009+63)
	}
}

// TestP1Wild: holds that stand in no order, or twice; numbers and ticks that are none: no call panics, and what is handed in stays.
func TestP1Wild(t *testing.T) {
	wild := []int{math.MinInt, math.MinInt + 1, -1 << 40, -1, 0, 1, 5, 1 << 40, math.MaxInt - 1, math.MaxInt}
	for _, a := range wild {
		for _, b := range wild {
			l := []api.Hold{{Id: a, Over: b, Until: a}, {Id: b, Parts: []api.Part{{Lot: a, N: b}, {Lot: b, N: a}}, Over: a, Until: b}, {Id: a}, {Id: 5, Parts: []api.Part{{}}}, {Id: b, Until: a}}
			was := clone(l)
			for _, c := range wild {
				for _, call := range calls {
					call(l, c)
				}
				hold.Put(l, api.Hold{Id: c, Parts: []api.Part{{Lot: a, N: c}}, Over: b, Until: c})
				hold.Due(l, c)
			}
			isKept(t, was, l)
		}
	}
}

// TestP1Many: lists that are longer than any that may be.
func TestP1Many(t *testing.T) {
	var l []api.Hold
	for i := range 100000 {
		l = append(l, one(2*i, i%3))
	}
	isFound(t, l, l[99999])
	isMissing(t, l, 77777)
	if n := len(hold.Put(l, one(77777, 1))); n != 100001 {
		t.Fatalf("P1101: %d holds", n)
	}
	if n := len(hold.Drop(l, 77778)); n != 99999 {
		t.Fatalf("P1101: %d holds", n)
	}
	if n := len(hold.Due(l, 20*500)); n != 501 {
		t.Fatalf("P1101: %d are due", n)
	}
}

// FuzzHolds puts, drops and asks as its bytes say, and holds all that is answered against holds that stand in no list.
func FuzzHolds(f *testing.F) {
	f.Add([]byte{0, 3, 1, 1, 0, 9, 2, 2, 0, 5, 3, 3, 1, 3, 0, 0, 2, 5, 0, 0, 3, 2, 0, 0})
	f.Add([]byte{0, 250, 0, 9, 0, 250, 4, 1, 1, 250, 0, 0, 1, 250, 0, 0})
	f.Add([]byte{3, 0, 0, 0, 2, 0, 0, 0, 1, 0, 0, 0})
	f.Fuzz(func(t *testing.T, b []byte) {
		var l []api.Hold
		s := shelf{}
		all := func(api.Hold) bool { return true }
		for ; len(b) >= 4; b = b[4:] {
			id := int(int8(b[1]))
			switch b[0] % 4 {
			case 0:
				h := one(id, int(b[2])%6)
				h.Over, h.Until = int(b[2]), int(b[3])
				s[id] = h
				l = isPut(t, l, h, s.list(all))
			case 1:
				delete(s, id)
				l = isDropped(t, l, id, s.list(all))
			case 2:
				if h, is := s[id]; is {
					isFound(t, l, h)
				} else {
					isMissing(t, l, id)
				}
			case 3:
				now := int(b[3])
				isDue(t, l, now, s.list(func(h api.Hold) bool { return h.Until <= now }))
			}
		}
		for _, h := range l {
			n := h.Over
			for _, p := range h.Parts {
				n += p.N
			}
			isTotal(t, h, n)
		}
	})
}
