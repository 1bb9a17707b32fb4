package rec_test

import (
	"math"
	"reflect"
	"slices"
	"strings"
	"testing"

	"toll/api"
	"toll/rec"
)

func TestP601APlanInBytes(t *testing.T) {
	p := api.Plan{Name: "ab", Version: 1, Allowance: 2, Kind: 3, Anchor: 4, Days: 5, Cap: 6, Mode: 7, Burst: 8, Rate: -1}
	want := []byte{2, 'a', 'b',
		0, 0, 0, 0, 0, 0, 0, 1, 0, 0, 0, 0, 0, 0, 0, 2, 0, 0, 0, 0, 0, 0, 0, 3,
		0, 0, 0, 0, 0, 0, 0, 4, 0, 0, 0, 0, 0, 0, 0, 5, 0, 0, 0, 0, 0, 0, 0, 6,
		0, 0, 0, 0, 0, 0, 0, 7, 0, 0, 0, 0, 0, 0, 0, 8, 255, 255, 255, 255, 255, 255, 255, 255}
	sameBytes(t, "P601", rec.EncodePlan(p), want)
	sameBytes(t, "P601: of nothing", rec.EncodePlan(api.Plan{}), make([]byte, 1+9*8))
}

func TestP601AStatementInBytes(t *testing.T) {
	s := api.Statement{Name: "s", Term: 1, From: 2, To: 3, Granted: 4, Consumed: 5, Expired: 6, Rolled: 7, Over: 0x0102030405060708}
	want := []byte{1, 's',
		0, 0, 0, 0, 0, 0, 0, 1, 0, 0, 0, 0, 0, 0, 0, 2, 0, 0, 0, 0, 0, 0, 0, 3, 0, 0, 0, 0, 0, 0, 0, 4,
		0, 0, 0, 0, 0, 0, 0, 5, 0, 0, 0, 0, 0, 0, 0, 6, 0, 0, 0, 0, 0, 0, 0, 7, 1, 2, 3, 4, 5, 6, 7, 8}
	sameBytes(t, "P601", rec.EncodeStatement(s), want)
	sameBytes(t, "P601: of Term 0", rec.EncodeStatement(api.Statement{Over: 1}), row("", 0, 0, 0, 0, 0, 0, 0, 1))
}

func TestP601AnAccountInBytes(t *testing.T) {
	none := row("", "", "", 0, 0, 0, 0, 0, 0, 0, 0, 0, 0, 0, 0, byte(0), 0, 0, byte(0), byte(0))
	sameBytes(t, "P601: of nothing", rec.EncodeAccount(api.Account{}), none)
	sameBytes(t, "P601: of empty lists", rec.EncodeAccount(api.Account{Lots: []api.Lot{}, Holds: []api.Hold{}, Window: []api.Entry{}}), none)
	a := rich()
	a.Name, a.Key, a.Plan.Name, a.Window[0].Answer.Statement.Name, a.Window[2].Answer.Statement.Name = "name", "key", "plan", "one", "two"
	a.Lots, a.Holds[1].Parts, a.Holds = a.Lots[:2], nil, a.Holds[:2]
	l, h, w := a.Lots, a.Holds, a.Window
	p, s := a.Plan, w[0].Answer.Statement
	want := row("name", "key", "plan", p.Version, p.Allowance, p.Kind, p.Anchor, p.Days, p.Cap, p.Mode, p.Burst, p.Rate, a.Term, a.From, a.To,
		byte(2), l[0].Id, l[0].Kind, l[0].From, l[0].Until, l[0].Granted, l[0].Consumed, l[0].Held, l[0].Expired, l[0].Rolled,
		l[1].Id, l[1].Kind, l[1].From, l[1].Until, l[1].Granted, l[1].Consumed, l[1].Held, l[1].Expired, l[1].Rolled, a.Next, a.Over,
		byte(2), h[0].Id, byte(3), h[0].Parts[0].Lot, h[0].Parts[0].N, h[0].Parts[1].Lot, h[0].Parts[1].N, h[0].Parts[2].Lot, h[0].Parts[2].N, h[0].Over, h[0].Until,
		h[1].Id, byte(0), h[1].Over, h[1].Until,
		byte(3), w[0].Id, byte(w[0].Answer.Err), w[0].Answer.Left, w[0].Answer.Over, w[0].Answer.N, byte(1),
		"one", s.Term, s.From, s.To, s.Granted, s.Consumed, s.Expired, s.Rolled, s.Over,
		w[1].Id, byte(w[1].Answer.Err), w[1].Answer.Left, w[1].Answer.Over, w[1].Answer.N, byte(0))
	want = append(want, rowOfEntry(w[2])...)
	sameBytes(t, "P601", rec.EncodeAccount(a), want)
}

func TestP601Edges(t *testing.T) {
	long := strings.Repeat("\x00\xff", 127) + "z"
	for _, n := range []int{0, 1, -1, 127, 128, 255, 256, -256, 1 << 31, 1 << 32, math.MaxInt, math.MinInt} {
		p := api.Plan{Name: long, Version: n, Rate: n}
		sameBytes(t, "P601: ints", rec.EncodePlan(p), rowOfPlan(p))
		s := api.Statement{Name: long, Term: n, Over: n}
		sameBytes(t, "P601: ints", rec.EncodeStatement(s), rowOfStatement(s))
		if got, e := rec.ParsePlan(rowOfPlan(p)); e != api.OK || got != p {
			t.Errorf("P602: ParsePlan of %d: %v", n, e)
		}
		if got, e := rec.ParseStatement(rowOfStatement(s)); e != api.OK || got != s {
			t.Errorf("P602: ParseStatement of %d: %v", n, e)
		}
	}
	for _, e := range []api.Errno{0, 1, 24, 127, 128, 254, 255} {
		a := api.Account{Window: []api.Entry{{Answer: api.Answer{Err: e}}, {Answer: api.Answer{Err: e, Statement: api.Statement{Term: -1}}}}}
		checkAccount(t, "an Err", a)
	}
}

func TestP601AnAnswerWithoutATermHasNoStatement(t *testing.T) {
	termless := api.Statement{Name: "st", From: 1, To: 2, Granted: 3, Consumed: 4, Expired: 5, Rolled: 6, Over: 7}
	a := api.Account{Window: []api.Entry{{Id: 1, Answer: api.Answer{Statement: termless}}, {Id: 2}}}
	sameBytes(t, "P601", rec.EncodeAccount(a), window(2, row(1, byte(0), 0, 0, 0, byte(0)), row(2, byte(0), 0, 0, 0, byte(0))))
	a.Window[0].Answer.Statement.Term = math.MinInt
	checkAccount(t, "a Term below 0", a)
}

// checkAccount holds an account against its bytes, there and back.
func checkAccount(t *testing.T, what string, a api.Account) {
	t.Helper()
	want := rowOfAccount(a)
	sameBytes(t, "P601: "+what, rec.EncodeAccount(a), want)
	got, e := rec.ParseAccount(want)
	if e != api.OK || !alike(got, a) || !rec.SameAccount(got, a) || !rec.SameAccount(a, got) {
		t.Errorf("P604: %s: %v, the same: %v", what, e, alike(got, a))
	}
	sameBytes(t, "P604: "+what, rec.EncodeAccount(got), want)
}

func TestP601FullLists(t *testing.T) {
	for _, many := range []int{254, 255} {
		s := &source{uint64(many)}
		few := func() int { return 1 }
		a := rich()
		full := reflect.ValueOf(&a).Elem()
		for _, name := range []string{"Lots", "Holds", "Window"} {
			list := full.FieldByName(name)
			list.Set(reflect.MakeSlice(list.Type(), many, many))
			for i := range many {
				s.fill(list.Index(i), few)
			}
		}
		a.Holds[3].Parts = make([]api.Part, many)
		a.Holds[3].Parts[many-1] = api.Part{Lot: 5, N: 6}
		a.Name, a.Key, a.Plan.Name = strings.Repeat("n", many), strings.Repeat("\xff", many), strings.Repeat("\x00", many)
		a.Window[9].Answer.Statement = api.Statement{Term: 1, Name: strings.Repeat("s", many)}
		checkAccount(t, "full lists", a)
	}
}

func TestP602CutAnywhere(t *testing.T) {
	a := rich()
	b := rowOfAccount(a)
	for n := range b {
		if got, e := rec.ParseAccount(b[:n:n]); e != api.ErrCut || !reflect.DeepEqual(got, api.Account{}) {
			t.Errorf("P602: an account of %d bytes: %v", n, e)
		}
		// What stands behind the end, in the spare room, is not there.
		if _, e := rec.ParseAccount(b[:n]); e != api.ErrCut {
			t.Errorf("P602: an account of %d bytes and spare room: %v", n, e)
		}
	}
	b = rowOfPlan(a.Plan)
	for n := range b {
		if got, e := rec.ParsePlan(b[:n]); e != api.ErrCut || got != (api.Plan{}) {
			t.Errorf("P602: a plan of %d bytes: %+v, %v", n, got, e)
		}
	}
	b = rowOfStatement(a.Window[0].Answer.Statement)
	for n := range b {
		if got, e := rec.ParseStatement(b[:n]); e != api.ErrCut || got != (api.Statement{}) {
			t.Errorf("P602: a statement of %d bytes: %+v, %v", n, got, e)
		}
	}
}

func TestP602More(t *testing.T) {
	a := rich()
	s := a.Window[0].Answer.Statement
	for _, more := range [][]byte{{0}, {1}, {255}, make([]byte, 8), rowOfPlan(a.Plan)} {
		if got, e := rec.ParsePlan(append(rowOfPlan(a.Plan), more...)); e != api.ErrMore || got != (api.Plan{}) {
			t.Errorf("P602: a plan and %d bytes: %+v, %v", len(more), got, e)
		}
		if got, e := rec.ParseStatement(append(rowOfStatement(s), more...)); e != api.ErrMore || got != (api.Statement{}) {
			t.Errorf("P602: a statement and %d bytes: %+v, %v", len(more), got, e)
		}
		if got, e := rec.ParseAccount(append(rowOfAccount(a), more...)); e != api.ErrMore || !reflect.DeepEqual(got, api.Account{}) {
			t.Errorf("P602: an account and %d bytes: %v", len(more), e)
		}
	}
}

// window is an account's bytes whose Window has so many entries, and those bytes.
func window(many byte, entries ...[]byte) []byte {
	b := rowOfAccount(api.Account{})
	b[len(b)-1] = many
	return append(b, slices.Concat(entries...)...)
}

func TestP602Bad(t *testing.T) {
	st := api.Statement{Name: "st", Term: 1, From: 2}
	termless := rowOfStatement(api.Statement{Name: "st", From: 2})
	head := row(5, byte(0), 6, 7, 8)
	good := append(slices.Clone(head), 0)
	told := row(head, byte(1), rowOfStatement(st))
	bad := row(head, byte(1), termless)
	for _, c := range []struct {
		what string
		b    []byte
		want api.Errno
	}{
		{"without a statement", window(1, good), api.OK},
		{"with one", window(2, good, told), api.OK},
		{"a byte of 2", window(1, head, []byte{2}), api.ErrBad},
		{"a byte of 255", window(1, head, []byte{255}), api.ErrBad},
		{"a byte of 2, a statement behind it", window(1, head, []byte{2}, rowOfStatement(st)), api.ErrBad},
		{"a byte of 2, and more entries to come", window(9, head, []byte{2}), api.ErrBad},
		{"no such byte", window(1, head), api.ErrCut},
		{"Term 0", window(1, bad), api.ErrBad},
		{"Term 0, an entry behind it", window(2, bad, good), api.ErrBad},
		{"Term 0, more behind it", window(1, bad, []byte{7}), api.ErrBad},
		{"Term 0, the next entry cut off", window(2, bad, good[:12]), api.ErrBad},
		{"Term 0, no next entry", window(2, bad), api.ErrBad},
		{"Term 0 in the second", window(2, told, bad), api.ErrBad},
		{"the first cut off", window(1, good[:12]), api.ErrCut},
		{"a statement, and no more", window(2, told), api.ErrCut},
		{"more", window(1, told, []byte{0}), api.ErrMore},
		{"fewer than there are", window(1, told, good), api.ErrMore},
		{"0, and a statement", window(1, good, rowOfStatement(st)), api.ErrMore},
	} {
		got, e := rec.ParseAccount(c.b)
		if e != c.want || e != api.OK && !reflect.DeepEqual(got, api.Account{}) {
			t.Errorf("P602: %s: %v, not %v", c.what, e, c.want)
		}
	}
	for n := range bad {
		if _, e := rec.ParseAccount(window(1, bad[:n])); e != api.ErrCut {
			t.Errorf("P602: Term 0, %d bytes of %d: %v", n, len(bad), e)
		}
	}
	// Alone a statement may be of Term 0.
	if got, e := rec.ParseStatement(termless); e != api.OK || got != (api.Statement{Name: "st", From: 2}) {
		t.Errorf("P602: a statement of Term 0: %+v, %v", got, e)
	}
}

func TestP602EachByteOfAnAccount(t *testing.T) {
	b := rowOfAccount(rich())
	for n := range b {
		for _, x := range []byte{0, 1, 2, b[n] + 1, b[n] - 1, 255} {
			c := slices.Clone(b)
			c[n] = x
			if checkBytes(t, c); t.Failed() {
				return
			}
		}
	}
}

// checkBytes holds what is parsed of bytes against P602 and P604.
func checkBytes(t *testing.T, b []byte) {
	t.Helper()
	kept := slices.Clone(b)
	p, e := rec.ParsePlan(b)
	if want := wanted(b, planSteps); e != want || e != api.OK && p != (api.Plan{}) {
		t.Errorf("P602: ParsePlan(%s): %v, not %v", short(b), e, want)
	} else if e == api.OK {
		sameBytes(t, "P604: a plan", rec.EncodePlan(p), b)
		sameBytes(t, "P602: a plan", rowOfPlan(p), b)
	}
	s, e := rec.ParseStatement(b)
	if want := wanted(b, statementSteps); e != want || e != api.OK && s != (api.Statement{}) {
		t.Errorf("P602: ParseStatement(%s): %v, not %v", short(b), e, want)
	} else if e == api.OK {
		sameBytes(t, "P604: a statement", rec.EncodeStatement(s), b)
		sameBytes(t, "P602: a statement", rowOfStatement(s), b)
	}
	a, e := rec.ParseAccount(b)
	if want := wanted(b, accountSteps); e != want || e != api.OK && !reflect.DeepEqual(a, api.Account{}) {
		t.Errorf("P602: ParseAccount(%s): %v, not %v", short(b), e, want)
	} else if e == api.OK {
		sameBytes(t, "P604: an account", rec.EncodeAccount(a), b)
		sameBytes(t, "P602: an account", rowOfAccount(a), b)
	}
	sameBytes(t, "P2: what was parsed", b, kept)
}

func TestP602SamePlan(t *testing.T) {
	p := rich().Plan
	q := p
	q.Name = strings.Clone(p.Name)
	if !rec.SamePlan(p, q) || !rec.SamePlan(api.Plan{}, api.Plan{}) {
		t.Error("P602: a plan is not the same as itself")
	}
	for _, c := range changes(reflect.ValueOf(p), "plan", self) {
		q := p
		c.do(reflect.ValueOf(&q).Elem())
		if rec.SamePlan(p, q) || rec.SamePlan(q, p) {
			t.Errorf("P602: the same, but for %s", c.where)
		}
	}
	// What may not be written can be held against each other all the same.
	long := strings.Repeat("x", 300)
	if !rec.SamePlan(api.Plan{Name: long}, api.Plan{Name: strings.Clone(long)}) || rec.SamePlan(api.Plan{Name: long}, api.Plan{Name: long[1:]}) {
		t.Error("P602: long names")
	}
}

func TestP602SameAccount(t *testing.T) {
	a := rich()
	if !rec.SameAccount(a, a) || !rec.SameAccount(a, clone(a)) || !rec.SameAccount(clone(a), a) {
		t.Error("P602: an account is not the same as itself")
	}
	all := changes(reflect.ValueOf(a), "account", self)
	for _, c := range all {
		b := clone(a)
		c.do(reflect.ValueOf(&b).Elem())
		if rec.SameAccount(a, b) || rec.SameAccount(b, a) {
			t.Errorf("P602: the same, but for %s", c.where)
		}
	}
	if len(all) < 300 {
		t.Errorf("the test is wrong: %d changes", len(all))
	}
}

func TestP602SameAccountOfEmptyLists(t *testing.T) {
	none, empty := api.Account{Holds: []api.Hold{{Id: 1}}}, api.Account{Lots: []api.Lot{}, Holds: []api.Hold{{Id: 1, Parts: []api.Part{}}}, Window: []api.Entry{}}
	if !rec.SameAccount(none, empty) || !rec.SameAccount(empty, none) {
		t.Error("P2: no list and an empty one are not the same")
	}
	room := api.Account{Lots: make([]api.Lot, 0, 4), Holds: make([]api.Hold, 1, 4), Window: make([]api.Entry, 0, 4)}
	room.Lots[:1][0].Id, room.Holds[:2][1].Id, room.Holds[0] = 7, 7, api.Hold{Id: 1, Parts: make([]api.Part, 0, 3)}
	if !rec.SameAccount(none, room) || !rec.SameAccount(room, none) {
		t.Error("P602: spare room counts")
	}
}

func TestP602SameAccountOfMany(t *testing.T) {
	a := api.Account{Lots: make([]api.Lot, 300), Holds: make([]api.Hold, 300), Window: make([]api.Entry, 300)}
	a.Window[299].Answer.Err = -1
	b := clone(a)
	if !rec.SameAccount(a, b) {
		t.Error("P602: long lists are not the same")
	}
	b.Window[299].Answer.Err = 255
	if rec.SameAccount(a, b) {
		t.Error("P602: an Err of -1 and one of 255 are the same")
	}
	b = clone(a)
	b.Lots = b.Lots[:300-256]
	if rec.SameAccount(a, b) || rec.SameAccount(b, a) {
		t.Error("P602: 300 lots and 44 are the same")
	}
	// A statement's other fields count, whatever its Term.
	b = clone(a)
	b.Window[0].Answer.Statement.Over = 1
	if rec.SameAccount(a, b) {
		t.Error("P602: a statement of Term 0 is left out")
	}
}

func TestP603Number(t *testing.T) {
	for n, want := range map[int]string{
		0: "0000000000000000", 1: "0000000000000001", 9: "0000000000000009", 10: "000000000000000a", 15: "000000000000000f", 16: "0000000000000010",
		255: "00000000000000ff", 256: "0000000000000100", api.LastTick: "00000000ee6b2800", 1 << 40: "0000010000000000",
		0x0123456789abcdef: "0123456789abcdef", 1 << 62: "4000000000000000", math.MaxInt: "7fffffffffffffff",
	} {
		if got := rec.Number(n); got != want {
			t.Errorf("P603: Number(%d): %q, not %q", n, got, want)
		}
	}
}

func TestP604NumbersInOrder(t *testing.T) {
	s := &source{604}
	l := []int{0, 1, 9, 10, 15, 16, 255, 256, math.MaxInt - 1, math.MaxInt}
	for shift := range 63 {
		l = append(l, 1<<shift, 1<<shift-1, int(s.next()>>(shift+1)))
	}
	for _, a := range l {
		for _, b := range l {
			x, y := rec.Number(a), rec.Number(b)
			if (x < y) != (a < b) || (x == y) != (a == b) || len(x) != 16 {
				t.Fatalf("P604: %d: %q, %d: %q", a, x, b, y)
			}
		}
	}
}

func TestP604ThereAndBack(t *testing.T) {
	for seed := range 400 {
		checkAccount(t, "any account", filled[api.Account](seed))
		p := filled[api.Plan](seed)
		sameBytes(t, "P601: any plan", rec.EncodePlan(p), rowOfPlan(p))
		if got, e := rec.ParsePlan(rec.EncodePlan(p)); e != api.OK || got != p || !rec.SamePlan(got, p) {
			t.Errorf("P604: a plan, seed %d: %v", seed, e)
		}
		s := filled[api.Statement](seed)
		sameBytes(t, "P601: any statement", rec.EncodeStatement(s), rowOfStatement(s))
		if got, e := rec.ParseStatement(rec.EncodeStatement(s)); e != api.OK || got != s {
			t.Errorf("P604: a statement, seed %d: %v", seed, e)
		}
		if t.Failed() {
			return
		}
	}
}

func FuzzBytes(f *testing.F) {
	f.Add([]byte{})
	f.Add(rowOfPlan(rich().Plan))
	f.Add(rowOfStatement(rich().Window[0].Answer.Statement))
	f.Add(rowOfAccount(rich()))
	f.Add(rowOfAccount(api.Account{}))
	f.Add(window(1, row(5, byte(0), 6, 7, 8, byte(1), "st", 0, 0, 0, 0, 0, 0, 0, 0)))
	f.Fuzz(func(t *testing.T, b []byte) { checkBytes(t, b) })
}
