package rec_test

import (
	"encoding/binary"
	"math"
	"reflect"
	"strings"
	"testing"

	"toll/api"
)

// row lays P601's bytes one behind the other: an int, a text, a byte, or bytes that are laid already.
func row(fields ...any) []byte {
	var b []byte
	for _, x := range fields {
		switch x := x.(type) {
		case int:
			b = binary.BigEndian.AppendUint64(b, uint64(x))
		case string:
			b = append(append(b, byte(len(x))), x...)
		case byte:
			b = append(b, x)
		case []byte:
			b = append(b, x...)
		}
	}
	return b
}

func rowOfPlan(p api.Plan) []byte {
	return row(p.Name, p.Version, p.Allowance, p.Kind, p.Anchor, p.Days, p.Cap, p.Mode, p.Burst, p.Rate)
}

func rowOfStatement(s api.Statement) []byte {
	return row(s.Name, s.Term, s.From, s.To, s.Granted, s.Consumed, s.Expired, s.Rolled, s.Over)
}

func rowOfHold(h api.Hold) []byte {
	b := row(h.Id, byte(len(h.Parts)))
	for _, p := range h.Parts {
		b = append(b, row(p.Lot, p.N)...)
	}
	return append(b, row(h.Over, h.Until)...)
}

func rowOfEntry(e api.Entry) []byte {
	a := e.Answer
	b := row(e.Id, byte(a.Err), a.Left, a.Over, a.N)
	if a.Statement.Term == 0 {
		return append(b, 0)
	}
	return append(append(b, 1), rowOfStatement(a.Statement)...)
}

func rowOfAccount(a api.Account) []byte {
	b := row(a.Name, a.Key, rowOfPlan(a.Plan), a.Term, a.From, a.To, byte(len(a.Lots)))
	for _, l := range a.Lots {
		b = append(b, row(l.Id, l.Kind, l.From, l.Until, l.Granted, l.Consumed, l.Held, l.Expired, l.Rolled)...)
	}
	b = append(b, row(a.Next, a.Over, byte(len(a.Holds)))...)
	for _, h := range a.Holds {
		b = append(b, rowOfHold(h)...)
	}
	b = append(b, byte(len(a.Window)))
	for _, e := range a.Window {
		b = append(b, rowOfEntry(e)...)
	}
	return b
}

// steps goes over bytes and tells nothing but the error that P602 asks for, by a panic with it.
type steps struct{ rest []byte }

func (s *steps) over(n int) []byte {
	if len(s.rest) < n {
		panic(api.ErrCut)
	}
	b := s.rest[:n]
	s.rest = s.rest[n:]
	return b
}

func (s *steps) many() int { return int(s.over(1)[0]) }

func (s *steps) text() { s.over(s.many()) }

func (s *steps) ints(n int) { s.over(8 * n) }

func (s *steps) plan() { s.text(); s.ints(9) }

func (s *steps) statement() (term uint64) {
	s.text()
	return binary.BigEndian.Uint64(s.over(64))
}

func (s *steps) hold() {
	s.ints(1)
	s.ints(2 * s.many())
	s.ints(2)
}

func (s *steps) entry() {
	s.over(8 + 1 + 24)
	switch s.many() {
	case 0:
	case 1:
		if s.statement() == 0 {
			panic(api.ErrBad)
		}
	default:
		panic(api.ErrBad)
	}
}

func (s *steps) account() {
	s.text()
	s.text()
	s.plan()
	s.ints(3)
	s.ints(9 * s.many())
	s.ints(2)
	for range s.many() {
		s.hold()
	}
	for range s.many() {
		s.entry()
	}
}

// wanted is P602's error of bytes, as those of a record over which step goes.
func wanted(b []byte, step func(s *steps)) (e api.Errno) {
	s := &steps{b}
	defer func() {
		if x := recover(); x != nil {
			e = x.(api.Errno)
		}
	}()
	step(s)
	if len(s.rest) > 0 {
		return api.ErrMore
	}
	return api.OK
}

func planSteps(s *steps)      { s.plan() }
func accountSteps(s *steps)   { s.account() }
func statementSteps(s *steps) { s.statement() }

// source is numbers for records, the same ones each time.
type source struct{ state uint64 }

func (s *source) next() uint64 {
	s.state = s.state*6364136223846793005 + 1442695040888963407
	x := s.state
	x ^= x >> 29
	return x * 0x9E3779B97F4A7C15 >> 8
}

func (s *source) below(n int) int { return int(s.next() % uint64(n)) }

// any is an int: an edge as often as not.
func (s *source) any() int {
	edges := []int{0, 0, 1, -1, 255, 256, math.MaxInt, math.MinInt}
	if s.below(2) == 0 {
		return edges[s.below(len(edges))]
	}
	return int(s.next()<<8 ^ s.next())
}

func (s *source) text() string {
	sizes := []int{0, 1, 2, 24, 254, 255}
	b := make([]byte, sizes[s.below(len(sizes))])
	for i := range b {
		b[i] = byte(s.next())
	}
	return string(b)
}

func (s *source) many() int {
	sizes := []int{0, 1, 2, 3, 12}
	if s.below(200) == 0 {
		return 255
	}
	return sizes[s.below(len(sizes))]
}

// fill gives each int and text below v a value, and each list as many as many says.
func (s *source) fill(v reflect.Value, many func() int) {
	switch v.Kind() {
	case reflect.Int:
		if v.Type() == reflect.TypeFor[api.Errno]() {
			v.SetInt(int64(s.below(256)))
			return
		}
		v.SetInt(int64(s.any()))
	case reflect.String:
		v.SetString(s.text())
	case reflect.Slice:
		n := many()
		v.Set(reflect.MakeSlice(v.Type(), n, n))
		for i := range n {
			s.fill(v.Index(i), many)
		}
	case reflect.Struct:
		for i := range v.NumField() {
			s.fill(v.Field(i), many)
		}
		if st, ok := v.Addr().Interface().(*api.Answer); ok && st.Statement.Term == 0 {
			st.Statement = api.Statement{} // P601: nothing of it is in the bytes
		}
	}
}

func filled[T any](seed int) T {
	var x T
	s := &source{uint64(seed)}
	s.fill(reflect.ValueOf(&x).Elem(), s.many)
	return x
}

// rich is an account with two at least in each list, and no two numbers that are the same; its answers with a statement and without one.
func rich() api.Account {
	var a api.Account
	n := 0
	var fill func(v reflect.Value)
	fill = func(v reflect.Value) {
		switch v.Kind() {
		case reflect.Int:
			n++
			v.SetInt(int64(n))
		case reflect.String:
			n++
			v.SetString(strings.Repeat(string(rune('a'+n%26)), 1+n%5))
		case reflect.Slice:
			v.Set(reflect.MakeSlice(v.Type(), 3, 3))
			for i := range 3 {
				fill(v.Index(i))
			}
		case reflect.Struct:
			for i := range v.NumField() {
				fill(v.Field(i))
			}
		}
	}
	fill(reflect.ValueOf(&a).Elem())
	a.Window[1].Answer.Statement = api.Statement{}
	return a
}

// clone is the same account in other memory.
func clone(a api.Account) api.Account {
	a.Name, a.Key, a.Plan.Name = strings.Clone(a.Name), strings.Clone(a.Key), strings.Clone(a.Plan.Name)
	a.Lots = append([]api.Lot{}, a.Lots...)
	a.Window = append([]api.Entry{}, a.Window...)
	for i := range a.Window {
		s := &a.Window[i].Answer.Statement
		s.Name = strings.Clone(s.Name)
	}
	a.Holds = append([]api.Hold{}, a.Holds...)
	for i := range a.Holds {
		a.Holds[i].Parts = append([]api.Part{}, a.Holds[i].Parts...)
	}
	return a
}

// plain is an account whose empty lists are none, so that reflect.DeepEqual takes them for the same (P2).
func plain(a api.Account) api.Account {
	a = clone(a)
	if len(a.Lots) == 0 {
		a.Lots = nil
	}
	if len(a.Window) == 0 {
		a.Window = nil
	}
	for i := range a.Holds {
		if len(a.Holds[i].Parts) == 0 {
			a.Holds[i].Parts = nil
		}
	}
	if len(a.Holds) == 0 {
		a.Holds = nil
	}
	return a
}

func alike(a, b api.Account) bool { return reflect.DeepEqual(plain(a), plain(b)) }

// change is a way to make an account, or another record, another one.
type change struct {
	where string
	do    func(v reflect.Value)
}

// changes are all of them below t: each int and text made another one, each list made shorter, longer and turned round, its elements changed each.
func changes(v reflect.Value, where string, at func(v reflect.Value) reflect.Value) []change {
	var all []change
	add := func(what string, do func(v reflect.Value)) {
		all = append(all, change{where + what, func(v reflect.Value) { do(at(v)) }})
	}
	switch v.Kind() {
	case reflect.Int:
		add("+1", func(v reflect.Value) { v.SetInt(v.Int() + 1) })
		add("-1", func(v reflect.Value) { v.SetInt(v.Int() - 1) })
		add(" high", func(v reflect.Value) { v.SetInt(v.Int() ^ 1<<62) })
	case reflect.String:
		add(" longer", func(v reflect.Value) { v.SetString(v.String() + "\x00") })
		if v.Len() == 0 {
			break
		}
		add(" shorter", func(v reflect.Value) { v.SetString(v.String()[1:]) })
		add(" other", func(v reflect.Value) { v.SetString("\xff" + v.String()[1:]) })
	case reflect.Slice:
		add(" none", func(v reflect.Value) { v.SetZero() })
		add(" shorter", func(v reflect.Value) { v.SetLen(v.Len() - 1) })
		add(" from 1 on", func(v reflect.Value) { v.Set(v.Slice(1, v.Len())) })
		add(" longer", func(v reflect.Value) { v.Set(reflect.Append(v, reflect.Zero(v.Type().Elem()))) })
		add(" turned", func(v reflect.Value) { reflect.Swapper(v.Interface())(0, 1) })
		for i := range v.Len() {
			all = append(all, changes(v.Index(i), where+"["+string(rune('0'+i))+"]", func(v reflect.Value) reflect.Value { return at(v).Index(i) })...)
		}
	case reflect.Struct:
		for i := range v.NumField() {
			all = append(all, changes(v.Field(i), where+"."+v.Type().Field(i).Name, func(v reflect.Value) reflect.Value { return at(v).Field(i) })...)
		}
	}
	return all
}

func self(v reflect.Value) reflect.Value { return v }

// short is bytes for a message.
func short(b []byte) string {
	const digits = "0123456789abcdef"
	var s strings.Builder
	for _, x := range b[:min(len(b), 60)] {
		s.WriteByte(digits[x>>4])
		s.WriteByte(digits[x&15])
	}
	if len(b) > 60 {
		s.WriteString("..")
	}
	return s.String()
}

// firstOther tells where bytes part, for a message.
func firstOther(a, b []byte) int {
	n := 0
	for n < len(a) && n < len(b) && a[n] == b[n] {
		n++
	}
	return n
}

// sameBytes fails where they are not.
func sameBytes(t *testing.T, what string, got, want []byte) {
	t.Helper()
	if string(got) != string(want) {
		n := firstOther(got, want)
		t.Errorf("%s: %d bytes, not %d; from byte %d on %s, not %s", what, len(got), len(want), n, short(got[n:]), short(want[n:]))
	}
}
