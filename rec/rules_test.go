package rec_test

import (
	"math"
	"reflect"
	"slices"
	"strings"
	"testing"
	"unsafe"

	"toll/api"
	"toll/rec"
)

func TestP1WhatMayNotBe(t *testing.T) {
	long := strings.Repeat("x", 256)
	for _, name := range []string{long, long + long, strings.Repeat("y", 1<<20)} {
		rec.EncodePlan(api.Plan{Name: name})
		rec.EncodeStatement(api.Statement{Name: name})
		rec.EncodeAccount(api.Account{Name: name, Key: name, Plan: api.Plan{Name: name}})
		rec.EncodeAccount(api.Account{Window: []api.Entry{{Answer: api.Answer{Statement: api.Statement{Term: 1, Name: name}}}}})
	}
	for _, many := range []int{256, 257, 70000} {
		rec.EncodeAccount(api.Account{Lots: make([]api.Lot, many)})
		rec.EncodeAccount(api.Account{Holds: make([]api.Hold, many)})
		rec.EncodeAccount(api.Account{Holds: []api.Hold{{Parts: make([]api.Part, many)}}})
		rec.EncodeAccount(api.Account{Window: make([]api.Entry, many)})
	}
	for _, e := range []api.Errno{-1, 256, math.MaxInt, math.MinInt} {
		rec.EncodeAccount(api.Account{Window: []api.Entry{{Answer: api.Answer{Err: e}}}})
	}
	for _, n := range []int{-1, math.MinInt, -255} {
		rec.Number(n)
	}
}

// What has no bytes has none: others would be parsed as something else.
func TestP602RefusedWhole(t *testing.T) {
	long := strings.Repeat("x", 256)
	for what, b := range map[string][]byte{
		"a plan's name":        rec.EncodePlan(api.Plan{Name: long}),
		"a statement's name":   rec.EncodeStatement(api.Statement{Name: long}),
		"a name":               rec.EncodeAccount(api.Account{Name: long}),
		"a key":                rec.EncodeAccount(api.Account{Key: long}),
		"lots":                 rec.EncodeAccount(api.Account{Lots: make([]api.Lot, 256)}),
		"holds":                rec.EncodeAccount(api.Account{Holds: make([]api.Hold, 256)}),
		"parts":                rec.EncodeAccount(api.Account{Holds: []api.Hold{{Parts: make([]api.Part, 256)}}}),
		"entries":              rec.EncodeAccount(api.Account{Window: make([]api.Entry, 256)}),
		"an Err of 256":        rec.EncodeAccount(api.Account{Window: []api.Entry{{Answer: api.Answer{Err: 256}}}}),
		"an Err of -1, and on": rec.EncodeAccount(api.Account{Window: []api.Entry{{Answer: api.Answer{Err: -1}}, {}}}),
	} {
		if len(b) != 0 {
			t.Errorf("P602: %s: %d bytes", what, len(b))
		}
	}
}

func TestP1CountsWithNothingBehind(t *testing.T) {
	for n := range 300 {
		b := make([]byte, n)
		for i := range b {
			b[i] = 255
		}
		checkBytes(t, b)
		checkBytes(t, make([]byte, n))
	}
}

// spoiled is bytes with spare room, and the whole of them.
func spoiled(b []byte) (front, whole []byte) {
	whole = append(slices.Clone(b), "spare room"...)
	return whole[:len(b)], whole
}

func TestP2BytesNotChangedAndNotKept(t *testing.T) {
	a := rich()
	for _, b := range [][]byte{rowOfAccount(a), rowOfPlan(a.Plan), rowOfStatement(a.Window[0].Answer.Statement)} {
		front, whole := spoiled(b)
		kept := slices.Clone(whole)
		gotA, _ := rec.ParseAccount(front)
		gotP, _ := rec.ParsePlan(front)
		gotS, _ := rec.ParseStatement(front)
		sameBytes(t, "P2: bytes and their spare room", whole, kept)
		wantA, wantP, wantS := clone(gotA), gotP, gotS
		wantP.Name, wantS.Name = strings.Clone(gotP.Name), strings.Clone(gotS.Name)
		for i := range whole {
			whole[i] = 'Z'
		}
		if !alike(gotA, wantA) || gotP != wantP || gotS != wantS {
			t.Error("P2: what was parsed hangs on the bytes that were handed in")
		}
	}
}

// lent is a text whose bytes are another's.
func lent(s string) (string, []byte) {
	b := []byte(s)
	return unsafe.String(&b[0], len(b)), b
}

func TestP2RecordsNotChangedAndNotKept(t *testing.T) {
	a := rich()
	a.Lots = append(make([]api.Lot, 0, 9), a.Lots...)
	a.Holds = append(make([]api.Hold, 0, 9), a.Holds...)
	a.Holds[0].Parts = append(make([]api.Part, 0, 9), a.Holds[0].Parts...)
	a.Window = append(make([]api.Entry, 0, 9), a.Window...)
	a.Lots[:9][8].Id, a.Holds[:9][8].Id, a.Holds[0].Parts[:9][8].N, a.Window[:9][8].Id = 8, 8, 8, 8
	var memory [][]byte
	for _, name := range []*string{&a.Name, &a.Key, &a.Plan.Name, &a.Window[0].Answer.Statement.Name} {
		s, b := lent(*name)
		*name, memory = s, append(memory, b)
	}
	want := clone(a)
	account, plan, statement := rec.EncodeAccount(a), rec.EncodePlan(a.Plan), rec.EncodeStatement(a.Window[0].Answer.Statement)
	rec.SameAccount(a, want)
	rec.SamePlan(a.Plan, want.Plan)
	if !alike(a, want) || a.Lots[:9][8].Id != 8 || a.Holds[:9][8].Id != 8 || a.Holds[0].Parts[:9][8].N != 8 || a.Window[:9][8].Id != 8 {
		t.Error("P2: the account was changed")
	}
	if a.Lots[:9][7] != (api.Lot{}) || a.Holds[0].Parts[:9][7] != (api.Part{}) || a.Window[:9][7] != (api.Entry{}) || a.Holds[:9][7].Id != 0 {
		t.Error("P2: the spare room was changed")
	}
	for _, b := range memory {
		clear(b)
	}
	clear(a.Lots)
	clear(a.Holds[0].Parts)
	clear(a.Holds)
	clear(a.Window)
	sameBytes(t, "P2: an account's bytes", account, rowOfAccount(want))
	sameBytes(t, "P2: a plan's bytes", plan, rowOfPlan(want.Plan))
	sameBytes(t, "P2: a statement's bytes", statement, rowOfStatement(want.Window[0].Answer.Statement))
}

// spoil writes over all of a list, its spare room too.
func spoil[T any](l []T, with T) {
	l = l[:cap(l)]
	for i := range l {
		l[i] = with
	}
}

func TestP2EncodedIsNewMemory(t *testing.T) {
	a := rich()
	s := a.Window[0].Answer.Statement
	for range 3 {
		x, y, z := rec.EncodeAccount(a), rec.EncodePlan(a.Plan), rec.EncodeStatement(s)
		x2, y2, z2 := rec.EncodeAccount(a), rec.EncodePlan(a.Plan), rec.EncodeStatement(s)
		for _, b := range [][]byte{x, y, z} {
			spoil(b, 0xA5)
		}
		sameBytes(t, "P2: another account's bytes", x2, rowOfAccount(a))
		sameBytes(t, "P2: another plan's bytes", y2, rowOfPlan(a.Plan))
		sameBytes(t, "P2: another statement's bytes", z2, rowOfStatement(s))
	}
}

func TestP2ParsedIsNewMemory(t *testing.T) {
	want := rich()
	b := rowOfAccount(want)
	x, _ := rec.ParseAccount(b)
	y, _ := rec.ParseAccount(b)
	// No list of one answer, nor of another one, shares memory with any: each is written over alone.
	spoil(x.Lots, api.Lot{Id: -1})
	if !reflect.DeepEqual(x.Holds, want.Holds) || !slices.Equal(x.Window, want.Window) || !alike(y, want) {
		t.Error("P2: lots share memory")
	}
	x, _ = rec.ParseAccount(b)
	for i := range x.Holds {
		spoil(x.Holds[i].Parts, api.Part{Lot: -1})
		for j := range x.Holds {
			if j > i && !slices.Equal(x.Holds[j].Parts, want.Holds[j].Parts) {
				t.Errorf("P2: the parts of hold %d share memory with those of hold %d", i, j)
			}
		}
	}
	if !slices.Equal(x.Lots, want.Lots) || !slices.Equal(x.Window, want.Window) || !alike(y, want) {
		t.Error("P2: parts share memory")
	}
	x, _ = rec.ParseAccount(b)
	spoil(x.Window, api.Entry{Id: -1})
	spoil(x.Holds, api.Hold{Id: -1})
	if !slices.Equal(x.Lots, want.Lots) || !alike(y, want) {
		t.Error("P2: holds or entries share memory")
	}
	sameBytes(t, "P2: what was handed in", b, rowOfAccount(want))
}

func TestP3TheSameAgain(t *testing.T) {
	a := rich()
	for range 5 {
		sameBytes(t, "P3", rec.EncodeAccount(a), rowOfAccount(a))
		if got, e := rec.ParseAccount(rowOfAccount(a)); e != api.OK || !alike(got, a) {
			t.Errorf("P3: %v", e)
		}
		// P5: what was answered an error has changed nothing.
		rec.ParseAccount(rowOfAccount(a)[:40])
		rec.ParsePlan([]byte{9})
		rec.EncodePlan(api.Plan{Name: strings.Repeat("x", 256)})
	}
}
