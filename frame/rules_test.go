package frame_test

import (
	"math"
	"slices"
	"strings"
	"testing"
	"unsafe"

	"toll/api"
	"toll/frame"
)

// TestP1803Requests: there and back, whatever they are.
func TestP1803Requests(t *testing.T) {
	for seed := range 3000 {
		encodes(t, "any", sourceOf(seed).request())
	}
}

// TestP1803EachByte: bytes of which each one is another, in turn.
func TestP1803EachByte(t *testing.T) {
	var all [][]byte
	for _, kind := range kinds {
		all = append(all, rowOfRequest(full(kind)), rowOfRequest(api.Request{Kind: kind}))
	}
	all = append(all, rowOfAnswer(told()), rowOfAnswer(api.Answer{Err: 24, N: -1}))
	for _, b := range all {
		for n := range b {
			for x := range 256 {
				c := slices.Clone(b)
				c[n] = byte(x)
				if checkBytes(t, c); t.Failed() {
					return
				}
			}
		}
	}
}

// TestP1803AnyBytes: those that are near a request's or an answer's, and those that are not.
func TestP1803AnyBytes(t *testing.T) {
	for seed := range 20000 {
		s := sourceOf(seed)
		b := rowOfRequest(s.request())
		if s.IntN(2) == 0 {
			b = rowOfAnswer(s.answer())
		}
		switch s.IntN(6) {
		case 0:
			b = b[:s.IntN(len(b))]
		case 1:
			b = append(b, make([]byte, s.IntN(9))...)
		case 2:
			b[s.IntN(len(b))] = byte(s.Uint32())
		case 3:
			i := s.IntN(len(b))
			b = slices.Delete(b, i, i+1)
		case 4:
			b = slices.Insert(b, s.IntN(len(b)+1), byte(s.Uint32()))
		case 5:
			for i := range b {
				b[i] = byte(s.Uint32() % 21)
			}
		}
		if checkBytes(t, b); t.Failed() {
			return
		}
	}
}

func FuzzBytes(f *testing.F) {
	f.Add([]byte{})
	for _, kind := range kinds {
		f.Add(rowOfRequest(full(kind)))
		f.Add(rowOfRequest(api.Request{Kind: kind}))
	}
	f.Add(rowOfAnswer(told()))
	f.Add(rowOfAnswer(api.Answer{Err: 24}))
	f.Add(row(make([]byte, 25), byte(1), rowOfStatement(api.Statement{Name: "st"})))
	f.Fuzz(func(t *testing.T, b []byte) { checkBytes(t, b) })
}

// TestP1Wild: whatever texts, numbers and bytes there are, each call ends and none panics.
func TestP1Wild(t *testing.T) {
	texts := []string{"", "\x00", "\xff\xfe", "\xed\xa0\x80", "%s%n", strings.Repeat("\xff", 255), strings.Repeat("\xff", 5000), strings.Repeat("a", 1<<20)}
	numbers := append(notKinds()[:12], kinds...)
	for _, text := range texts {
		for _, n := range numbers {
			r := api.Request{Kind: n, Key: text, Id: n, N: n, TTL: n, Of: n, Name: text, Secret: text, Plan: api.Plan{Name: text, Version: n, Rate: n}}
			frame.EncodeRequest(r)
			frame.SameRequest(r, api.Request{Kind: n, Key: text})
			frame.EncodeAnswer(api.Answer{Err: api.Errno(n), Left: n, Over: n, N: n, Statement: api.Statement{Name: text, Term: n, Over: n}})
		}
		frame.Frame([]byte(text))
		checkBytes(t, []byte(text))
	}
	for size := range 400 {
		for _, x := range []byte{0, 1, 2, 5, 16, 17, 254, 255} {
			checkBytes(t, []byte(strings.Repeat(string([]byte{x}), size)))
		}
	}
}

// TestP1802NoBytes: an answer that may not be has no bytes: others would be parsed as something else.
func TestP1802NoBytes(t *testing.T) {
	for _, e := range []api.Errno{-1, 256, 257, -256, 1 << 32, math.MaxInt, math.MinInt} {
		for _, a := range []api.Answer{{Err: e}, {Err: e, Left: 1, Statement: told().Statement}} {
			if b := frame.EncodeAnswer(a); len(b) != 0 {
				t.Errorf("P1802: an Err of %d: %d bytes", e, len(b))
			}
		}
	}
	for _, size := range []int{256, 257, 512, 1 << 16} {
		a := told()
		a.Statement.Name = strings.Repeat("x", size)
		if b := frame.EncodeAnswer(a); len(b) != 0 {
			t.Errorf("P1802: a Name of %d bytes: %d bytes", size, len(b))
		}
	}
}

// roomy is bytes with spare room, filled, and the whole of them.
func roomy(b []byte) (front, whole []byte) {
	whole = append(slices.Clone(b), "spare room"...)
	return whole[:len(b)], whole
}

// spoil writes over all of some bytes, their spare room too.
func spoil(b []byte) {
	b = b[:cap(b)]
	for i := range b {
		b[i] = 0xA5
	}
}

// lent is a text whose bytes its owner may write over.
func lent(s string) (string, []byte) {
	b := []byte(s)
	return unsafe.String(unsafe.SliceData(b), len(b)), b
}

// lentRequest is a full request whose texts its owner may write over.
func lentRequest(kind int) (api.Request, [][]byte) {
	r := full(kind)
	var memory [][]byte
	for _, path := range allFields() {
		if isText(path) {
			s, b := lent(at(&r, path).String())
			at(&r, path).SetString(s)
			memory = append(memory, b)
		}
	}
	return r, memory
}

// TestP2ParsedBytes: bytes that are parsed are neither changed nor kept.
func TestP2ParsedBytes(t *testing.T) {
	for _, kind := range kinds {
		front, whole := roomy(rowOfRequest(full(kind)))
		kept := slices.Clone(whole)
		r, e := frame.ParseRequest(front)
		sameBytes(t, "P2: a request's bytes and their spare room", whole, kept)
		spoil(whole)
		if e != api.OK || r != plain(full(kind)) {
			t.Errorf("P2: kind %d hangs on the bytes that were handed in: %+v, %v", kind, r, e)
		}
	}
	front, whole := roomy(rowOfAnswer(told()))
	kept := slices.Clone(whole)
	a, e := frame.ParseAnswer(front)
	sameBytes(t, "P2: an answer's bytes and their spare room", whole, kept)
	spoil(whole)
	if e != api.OK || a != told() {
		t.Errorf("P2: the answer hangs on the bytes that were handed in: %+v, %v", a, e)
	}
}

// TestP2RefusedBytes: bytes that are refused are not changed either, nor is their spare room.
func TestP2RefusedBytes(t *testing.T) {
	for _, b := range [][]byte{rowOfRequest(full(api.KPlan)), rowOfRequest(full(api.KTenant)), rowOfAnswer(told()), make([]byte, 600)} {
		for n := range b {
			kept := slices.Clone(b)
			frame.ParseRequest(b[:n])
			frame.ParseAnswer(b[:n])
			frame.Frame(b[:n])
			sameBytes(t, "P2: bytes and their spare room", b, kept)
		}
	}
}

// TestP2Encoded: requests and answers that are encoded are neither changed nor kept.
func TestP2Encoded(t *testing.T) {
	for _, kind := range kinds {
		r, memory := lentRequest(kind)
		b, e := frame.EncodeRequest(r)
		if e != api.OK || r != full(kind) {
			t.Errorf("P2: kind %d was changed: %v", kind, e)
		}
		for _, text := range memory {
			spoil(text)
		}
		sameBytes(t, "P2: a request's bytes", b, rowOfRequest(full(kind)))
	}
	a := told()
	name, memory := lent(a.Statement.Name)
	a.Statement.Name = name
	b := frame.EncodeAnswer(a)
	if a != told() {
		t.Error("P2: an answer was changed")
	}
	spoil(memory)
	sameBytes(t, "P2: an answer's bytes", b, rowOfAnswer(told()))
}

// TestP2Same: requests that are held against each other are neither changed nor kept.
func TestP2Same(t *testing.T) {
	for _, kind := range kinds {
		a, memory := lentRequest(kind)
		b, _ := lentRequest(kind)
		same(t, "itself", a, b, true)
		if a != full(kind) || b != full(kind) {
			t.Errorf("P2: kind %d was changed", kind)
		}
		for _, text := range memory {
			spoil(text)
		}
		same(t, "written over", a, b, false)
		same(t, "itself", b, full(kind), true)
	}
}

// TestP2Frame: bytes that are framed are neither changed nor kept, and the frame is new.
func TestP2Frame(t *testing.T) {
	for _, size := range []int{1, 2, 3, 255, 256, 511, 512} {
		b := []byte(strings.Repeat("x", size))
		front, whole := roomy(b)
		kept := slices.Clone(whole)
		got, e := frame.Frame(front)
		again, _ := frame.Frame(front)
		sameBytes(t, "P2: what is framed, and its spare room", whole, kept)
		want := row(byte(size>>8), byte(size), b)
		spoil(whole)
		if e != api.OK {
			t.Errorf("P2: %v", e)
		}
		sameBytes(t, "P2: a frame", got, want)
		spoil(got)
		sameBytes(t, "P2: another frame", again, want)
	}
}

// TestP2NewMemory: what is written over of one answer is not in another one.
func TestP2NewMemory(t *testing.T) {
	for range 3 {
		for _, kind := range kinds {
			r := full(kind)
			x, _ := frame.EncodeRequest(r)
			y, _ := frame.EncodeRequest(r)
			spoil(x)
			sameBytes(t, "P2: another request's bytes", y, rowOfRequest(r))
			z, _ := frame.EncodeRequest(r)
			sameBytes(t, "P2: a later request's bytes", z, rowOfRequest(r))
		}
		x, y := frame.EncodeAnswer(told()), frame.EncodeAnswer(told())
		spoil(x)
		sameBytes(t, "P2: another answer's bytes", y, rowOfAnswer(told()))
		sameBytes(t, "P2: a later answer's bytes", frame.EncodeAnswer(told()), rowOfAnswer(told()))
	}
}

// TestP3Again: the same calls answer the same, also behind calls that were refused (P5).
func TestP3Again(t *testing.T) {
	for range 5 {
		for _, kind := range kinds {
			encodes(t, "again", full(kind))
			refuses(t, "a key that is too long", api.Request{Kind: kind, Key: strings.Repeat("x", 256)}, api.ErrLong)
			frame.ParseRequest(rowOfRequest(full(kind))[:5])
			refuses(t, "no kind", api.Request{Kind: kind + 256}, api.ErrKind)
		}
		answers(t, "again", told())
		frame.ParseAnswer(rowOfAnswer(told())[:40])
		frame.EncodeAnswer(api.Answer{Err: 256})
		frame.Frame(nil)
	}
}

// TestP9Numbers: whatever numbers and texts a request has, they are carried as they are; the service asks what they may be.
func TestP9Numbers(t *testing.T) {
	for _, kind := range kinds {
		r := full(kind)
		for _, path := range allFields() {
			if isText(path) {
				at(&r, path).SetString("No Name\n\x00\xff")
			} else {
				at(&r, path).SetInt(math.MinInt64)
			}
		}
		encodes(t, "what may not be elsewhere", r)
	}
}
