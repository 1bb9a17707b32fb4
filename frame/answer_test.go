package frame_test

import (
	"math"
	"strings"
	"testing"

	"toll/api"
	"toll/frame"
	"toll/rec"
)

// TestP1802Bytes: an answer's, written out, with a statement and without.
func TestP1802Bytes(t *testing.T) {
	head := []byte{24, 1, 2, 3, 4, 5, 6, 7, 8, 255, 255, 255, 255, 255, 255, 255, 254, 0, 0, 0, 0, 0, 0, 0, 3}
	a := told()
	sameBytes(t, "P1802: with a statement", frame.EncodeAnswer(a), row(head, byte(1), "anna", 5, 6, 7, 8, 9, 10, 11, -12))
	a.Statement = api.Statement{}
	sameBytes(t, "P1802: without one", frame.EncodeAnswer(a), row(head, byte(0)))
	sameBytes(t, "P1802: of nothing", frame.EncodeAnswer(api.Answer{}), make([]byte, 26))
	answers(t, "with a statement", told())
	answers(t, "without one", a)
	answers(t, "of nothing", api.Answer{})
	answers(t, "a statement alone", api.Answer{Statement: told().Statement})
}

// recBytes are an answer's as rec lays them: the last ones of an account, behind the entry's Id.
func recBytes(a api.Answer) []byte {
	none := len(rec.EncodeAccount(api.Account{}))
	return rec.EncodeAccount(api.Account{Window: []api.Entry{{Answer: a}}})[none+8:]
}

// TestP1802Recs: the bytes are rec's.
func TestP1802Recs(t *testing.T) {
	for seed := range 2000 {
		a := sourceOf(seed).answer()
		sameBytes(t, "P1802: rec's bytes", frame.EncodeAnswer(a), recBytes(a))
		answers(t, "any", a)
	}
}

// TestP1802Errs: all that a byte says.
func TestP1802Errs(t *testing.T) {
	for e := range 256 {
		a := told()
		a.Err = api.Errno(e)
		answers(t, "an Err", a)
		answers(t, "an Err alone", api.Answer{Err: api.Errno(e)})
	}
}

// TestP1802Numbers: below 0, the least, the greatest.
func TestP1802Numbers(t *testing.T) {
	for _, n := range []int{0, 1, -1, 255, 256, -256, 1 << 31, 1 << 32, math.MaxInt, math.MinInt} {
		for i := range 11 {
			a := told()
			s := &a.Statement
			if field := []*int{&a.Left, &a.Over, &a.N, &s.From, &s.To, &s.Granted, &s.Consumed, &s.Expired, &s.Rolled, &s.Over, &s.Term}[i]; n != 0 || field != &s.Term {
				*field = n
			}
			answers(t, "numbers", a)
		}
	}
}

// TestP1802Names: a statement's Name of up to 255 bytes.
func TestP1802Names(t *testing.T) {
	for _, size := range []int{0, 1, 24, 127, 128, 254, 255} {
		a := told()
		a.Statement.Name = strings.Repeat("\x00\xff", 128)[:size]
		answers(t, "a name", a)
	}
}

// TestP1802Termless: a statement whose Term is 0 is left out, whatever else it has.
func TestP1802Termless(t *testing.T) {
	a := told()
	a.Statement.Term = 0
	sameBytes(t, "P1802", frame.EncodeAnswer(a), row(byte(24), a.Left, a.Over, a.N, byte(0)))
	a.Statement.Name = strings.Repeat("x", 256)
	sameBytes(t, "P1802: with a name that is too long", frame.EncodeAnswer(a), row(byte(24), a.Left, a.Over, a.N, byte(0)))
}

// parses holds ParseAnswer to an error, and to the zero answer beside it.
func parses(t *testing.T, what string, b []byte, want api.Errno) {
	t.Helper()
	if got, e := frame.ParseAnswer(b); e != want || got != (api.Answer{}) {
		t.Errorf("P1802: %s: %d bytes: %+v, %v, not %v", what, len(b), got, e, want)
	}
}

// TestP1802Cut: each front of an answer's bytes, also of those of a statement whose Term is 0.
func TestP1802Cut(t *testing.T) {
	long, short := told(), told()
	long.Statement.Name, short.Statement.Name = strings.Repeat("z", 255), ""
	termless := row(byte(0), 1, 2, 3, byte(1), rowOfStatement(api.Statement{Name: "st", From: 2}))
	for _, b := range [][]byte{rowOfAnswer(told()), rowOfAnswer(long), rowOfAnswer(short), rowOfAnswer(api.Answer{Err: 255, N: -1}), termless} {
		for n := range b {
			parses(t, "cut off", b[:n], api.ErrCut)
			parses(t, "cut off, without spare room", b[:n:n], api.ErrCut)
		}
	}
	parses(t, "no bytes", nil, api.ErrCut)
	parses(t, "no bytes", []byte{}, api.ErrCut)
}

// TestP1802Bad: a byte that is neither 0 nor 1, a statement whose Term is 0; ahead of what is behind.
func TestP1802Bad(t *testing.T) {
	head := row(byte(24), 1, 2, 3)
	statement := rowOfStatement(told().Statement)
	termless := rowOfStatement(api.Statement{Name: "st", From: 2, Over: -1})
	for is := 2; is < 256; is++ {
		for _, tail := range [][]byte{nil, {0}, {255}, statement[:20], statement, termless, row(statement, byte(1)), make([]byte, 500)} {
			parses(t, "a byte that may not be", row(head, byte(is), tail), api.ErrBad)
		}
	}
	for _, tail := range [][]byte{nil, {0}, {255}, statement, make([]byte, 500)} {
		parses(t, "Term 0", row(head, byte(1), termless, tail), api.ErrBad)
		parses(t, "Term 0, nothing else", row(make([]byte, 25), byte(1), make([]byte, 65), tail), api.ErrBad)
		parses(t, "Term 0, the longest name", row(head, byte(1), rowOfStatement(api.Statement{Name: strings.Repeat("z", 255)}), tail), api.ErrBad)
	}
}

// TestP1802More: bytes behind the end.
func TestP1802More(t *testing.T) {
	for _, a := range []api.Answer{told(), {}, {Err: 255}, {Statement: api.Statement{Term: -1, Name: strings.Repeat("z", 255)}}} {
		for _, more := range [][]byte{{0}, {1}, {255}, make([]byte, 8), make([]byte, 500), rowOfStatement(told().Statement), rowOfAnswer(a)} {
			parses(t, "more", row(rowOfAnswer(a), more), api.ErrMore)
		}
	}
}

// TestP1802Frame: 1 to api.MaxFrame bytes, behind their length.
func TestP1802Frame(t *testing.T) {
	for size := range 1100 {
		b := make([]byte, size)
		for i := range b {
			b[i] = byte(i*7 + size)
		}
		got, e := frame.Frame(b)
		if size == 0 || size > 512 {
			if e != api.ErrLong || len(got) != 0 {
				t.Errorf("P1802: a frame of %d bytes: %d bytes, %v", size, len(got), e)
			}
			continue
		}
		if e != api.OK {
			t.Errorf("P1802: a frame of %d bytes: %v", size, e)
		}
		sameBytes(t, "P1802: a frame", got, row(byte(size/256), byte(size%256), b))
	}
	for _, size := range []int{1 << 16, 1<<16 + 1, 1<<16 + 512, 1 << 24} {
		if got, e := frame.Frame(make([]byte, size)); e != api.ErrLong || len(got) != 0 {
			t.Errorf("P1802: a frame of %d bytes: %d bytes, %v", size, len(got), e)
		}
	}
	if got, e := frame.Frame(nil); e != api.ErrLong || len(got) != 0 {
		t.Errorf("P1802: a frame of none: %d bytes, %v", len(got), e)
	}
}

// TestP1802FrameEdges: those that the document names, written out.
func TestP1802FrameEdges(t *testing.T) {
	for size, head := range map[int][]byte{1: {0, 1}, 2: {0, 2}, 255: {0, 255}, 256: {1, 0}, 257: {1, 1}, 511: {1, 255}, 512: {2, 0}} {
		b := []byte(strings.Repeat("x", size))
		got, e := frame.Frame(b)
		if e != api.OK {
			t.Errorf("P1802: a frame of %d bytes: %v", size, e)
		}
		sameBytes(t, "P1802: a frame", got, row(head, b))
	}
}
