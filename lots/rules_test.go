package lots_test

import (
	"encoding/binary"
	"math"
	"slices"
	"testing"

	"toll/api"
	"toll/lots"
)

var (
	spareLot  = api.Lot{Id: -7, Kind: -7, From: -7, Until: -7, Granted: -7, Consumed: -7, Held: -7, Expired: -7, Rolled: -7}
	sparePart = api.Part{Lot: -7, N: -7}
)

// roomy is a list with spare room behind it, and the whole of it.
func roomy[T any](l []T, spare T) (list, whole []T) {
	whole = slices.Clone(l)
	for range 20 {
		whole = append(whole, spare)
	}
	return whole[:len(l)], whole
}

// spoil writes over a list and its spare room, so that one who has it too shows it.
func spoil[T any](l []T, with T) {
	l = l[:cap(l)]
	for i := range l {
		l[i] = with
	}
}

// TestP2HandedIn: lists and their spare room stay as they were, and the answers hold when they are spoiled.
func TestP2HandedIn(t *testing.T) {
	for n := range 15 {
		l, whole := roomy(row(n), spareLot)
		was := slices.Clone(whole)
		lots.Check(l)
		lots.Left(l, 13)
		held, parts, lack := lots.Take(l, 150, 13)
		if !slices.Equal(whole, was) {
			t.Fatalf("P2: Check, Left or Take of %d lots changed them", n)
		}
		spoil(whole, spareLot)
		wantHeld, wantParts, wantLack := taken(row(n), 150, 13)
		if !slices.Equal(held, wantHeld) || !slices.Equal(parts, wantParts) || lack != wantLack {
			t.Fatalf("P2: Take of %d lots keeps them", n)
		}
		isUseApart(t, held, parts)
	}
}

func isUseApart(t *testing.T, held []api.Lot, parts []api.Part) {
	t.Helper()
	l, whole := roomy(held, spareLot)
	p, wholeParts := roomy(parts, sparePart)
	was, wasParts := slices.Clone(whole), slices.Clone(wholeParts)
	behind, _ := lots.Use(l, p, 20, 35)
	if !slices.Equal(whole, was) || !slices.Equal(wholeParts, wasParts) {
		t.Fatalf("P2: Use of %d lots, %d parts changed them", len(held), len(parts))
	}
	spoil(whole, spareLot)
	spoil(wholeParts, sparePart)
	if want, _ := used(held, parts, 20, 35); !slices.Equal(behind, want) {
		t.Fatalf("P2: Use of %d lots, %d parts keeps them", len(held), len(parts))
	}
}

// TestP2Answers: they are new, also where nothing is done: who writes over them, and over their spare room, changes nothing else.
func TestP2Answers(t *testing.T) {
	for n := range 15 {
		for _, k := range []int{0, 1, 150, 10000} {
			l, whole := roomy(row(n), spareLot)
			was := slices.Clone(whole)
			held, parts, _ := lots.Take(l, k, 13)
			again, partsAgain, _ := lots.Take(l, k, 13)
			wantParts := slices.Clone(parts)
			for _, p := range [][]api.Part{parts, nil} {
				p, wholeParts := roomy(p, sparePart)
				wasParts := slices.Clone(wholeParts)
				behind, _ := lots.Use(l, p, k, 35)
				spoil(behind, spareLot)
				if !slices.Equal(wholeParts, wasParts) || !slices.Equal(whole, was) {
					t.Fatal("P2: Use answers what was handed in")
				}
			}
			spoil(held, spareLot)
			if !slices.Equal(parts, wantParts) || !slices.Equal(whole, was) {
				t.Fatal("P2: Take's lots are not its own")
			}
			spoil(parts, sparePart)
			wantHeld, _, _ := taken(row(n), k, 13)
			if !slices.Equal(again, wantHeld) || !slices.Equal(partsAgain, wantParts) || !slices.Equal(whole, was) {
				t.Fatal("P2: two answers of Take share memory")
			}
		}
	}
}

// TestP3Again: nothing is kept from call to call, whatever was asked in between.
func TestP3Again(t *testing.T) {
	l := []api.Lot{lot(1, 0, 10, 3), lot(2, 0, 5, 2)}
	for range 3 {
		isChecked(t, l, api.OK)
		isLeft(t, l, 1, 5)
		isTaken(t, l, 4, 1, []api.Part{{Lot: 2, N: 2}, {Lot: 1, N: 2}}, 0)
		isUsed(t, held(), []api.Part{{Lot: 3, N: 4}}, 1, 5, ended(held(), 1, 1, 0, 3), 0)
		isChecked(t, row(15), api.ErrMany)
		isLeft(t, l, 10, 0)
	}
}

// TestP1Wild: lots that may not be, parts of no lot, numbers and ticks that are none: no call panics, and what is handed in stays.
func TestP1Wild(t *testing.T) {
	wild := append(far, -1, 0, 1, 5, most)
	for _, a := range wild {
		for _, b := range wild {
			l := []api.Lot{{Id: a, Kind: b, From: b, Until: a, Granted: a, Held: b}, {Id: a, From: a, Until: math.MaxInt, Granted: b, Consumed: a}, lot(3, 0, 9, 5), {From: math.MinInt, Until: math.MaxInt, Granted: math.MaxInt, Rolled: math.MinInt}}
			p := []api.Part{{Lot: a, N: b}, {Lot: b, N: a}, {Lot: 3, N: a}, {Lot: 3, N: b}, {Lot: 4, N: 1}}
			was, wasParts := slices.Clone(l), slices.Clone(p)
			lots.Rest(l[0])
			lots.Check(l)
			for _, c := range wild {
				lots.Left(l, c)
				lots.Take(l, a, c)
				lots.Take(l, c, 5)
				lots.Use(l, p, a, c)
				lots.Use(l, p, c, 5)
				lots.Use(nil, p, c, a)
			}
			if !slices.Equal(l, was) || !slices.Equal(p, wasParts) {
				t.Fatal("P2: wild lots or parts were changed")
			}
		}
	}
}

// TestP1Many: lists that are longer than any that may be.
func TestP1Many(t *testing.T) {
	var l []api.Lot
	for i := range 100000 {
		l = append(l, lot(i+1, 0, 1+i*7919%100003, 1))
	}
	isChecked(t, l, api.ErrMany)
	behind, parts, _ := lots.Take(l, 1000, 0)
	lots.Use(behind, parts, 500, 9)
}

// mayBe reads P1001 plainly: what is wrong with lots, if anything.
func mayBe(l []api.Lot) api.Errno {
	if len(l) > 14 {
		return api.ErrMany
	}
	out := func(n, least, most int) bool { return n < least || n > most }
	for i, x := range l {
		least := 1
		if i > 0 {
			least = l[i-1].Id + 1
		}
		if out(x.Id, least, most) {
			return api.ErrArg
		}
		if out(x.Kind, 0, 2) {
			return api.ErrKind
		}
		if out(x.From, 0, most) || out(x.Until, x.From+1, most) {
			return api.ErrArg
		}
		if out(x.Granted, 0, most) || out(x.Consumed, 0, most) || out(x.Held, 0, most) || out(x.Expired, 0, most) || out(x.Rolled, 0, most) || rest(x) < 0 {
			return api.ErrBad
		}
	}
	return api.OK
}

// lotsOf makes lots of bytes: mostly such as may be, now and then with a number that is wild.
func lotsOf(b []byte) []api.Lot {
	var l []api.Lot
	id := 0
	for len(b) >= 10 {
		id += int(b[0]) % 8
		x := api.Lot{Id: id, Kind: int(b[1]) % 4, From: int(b[2]) % 32, Until: int(b[3]) % 64, Granted: int(b[4]), Consumed: int(b[5]) % 64, Held: int(b[6]) % 64, Expired: int(b[7]) % 64, Rolled: int(b[8]) % 64}
		wild := b[9]
		b = b[10:]
		if wild < 9 && len(b) >= 8 {
			at := []*int{&x.Id, &x.Kind, &x.From, &x.Until, &x.Granted, &x.Consumed, &x.Held, &x.Expired, &x.Rolled}
			*at[wild] = int(binary.LittleEndian.Uint64(b))
			b = b[8:]
		}
		l = append(l, x)
	}
	return l
}

// FuzzLots looks for lots that P1001 to P1005 do not hold for, and for such as are not borne (P1).
func FuzzLots(f *testing.F) {
	f.Add([]byte{1, 0, 0, 10, 3, 0, 0, 0, 0, 9, 1, 2, 0, 5, 2, 0, 0, 0, 0, 9}, []byte{1, 2}, 4, 1, 1, 5)
	f.Add([]byte{1, 0, 0, 10, 30, 1, 2, 3, 4, 4, 0, 0, 0, 0, 0, 1, 0, 0, 1, 2, 3, 5, 9, 9, 9, 9, 9, 9}, []byte{5, 5}, 1<<40, 3, 7, 100)
	f.Add([]byte{}, []byte{}, -1, -1, -1, -1)
	f.Fuzz(func(t *testing.T, b, cuts []byte, n, now, use, later int) {
		l := lotsOf(b)
		e := mayBe(l)
		isChecked(t, l, e)
		behind, parts, _ := lots.Take(l, n, now)
		lots.Use(l, parts, use, later)
		if e != api.OK || n < 0 || use < 0 {
			return
		}
		want, wantParts, lack := taken(l, n, now)
		isTaken(t, l, n, now, wantParts, lack)
		if !slices.Equal(behind, want) {
			t.Fatalf("P1003: %+v, not %+v", behind, want)
		}
		isLeft(t, l, now, lots.Left(behind, now)+n-lack)
		for i := range min(len(parts), len(cuts)) { // a part may be less than is held
			parts[i].N -= int(cuts[i]) % (parts[i].N + 1)
		}
		want, lack = used(behind, parts, use, later)
		isUsed(t, behind, parts, use, later, want, lack)
	})
}
