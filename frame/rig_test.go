package frame_test

import (
	"encoding/binary"
	"encoding/hex"
	"math"
	"math/rand/v2"
	"reflect"
	"slices"
	"strings"
	"testing"

	"toll/api"
	"toll/frame"
)

// kinds are all that there are.
var kinds = []int{api.KHold, api.KCommit, api.KRelease, api.KPack, api.KShow, api.KPlan, api.KTenant, api.KChange, api.KClose, api.KTerms}

// named is what P1801 says of each kind: the fields of its bytes, in their order.
var named = map[int][]string{
	api.KHold:    {"Key", "Id", "N", "TTL"},
	api.KPack:    {"Key", "Id", "N", "TTL"},
	api.KCommit:  {"Key", "Id", "Of", "N"},
	api.KRelease: {"Key", "Id", "Of"},
	api.KShow:    {"Key"},
	api.KPlan:    {"Key", "Plan.Name", "Plan.Version", "Plan.Allowance", "Plan.Kind", "Plan.Anchor", "Plan.Days", "Plan.Cap", "Plan.Mode", "Plan.Burst", "Plan.Rate"},
	api.KTenant:  {"Key", "Name", "Secret", "Plan.Name", "Plan.Version"},
	api.KChange:  {"Key", "Name", "Plan.Name", "Plan.Version"},
	api.KClose:   {"Key", "N"},
	api.KTerms:   {"Key", "Name", "N"},
}

// notKinds are numbers of which there is no kind: all others of a byte, and those that a byte would take for a kind.
func notKinds() []int {
	all := []int{-1, -2, math.MinInt, math.MaxInt, 1 << 32, 1<<32 + 1, -1 << 32, 256, 257, 512, -256, math.MinInt + 1}
	for k := range 256 {
		if !slices.Contains(kinds, k) {
			all = append(all, k)
		}
	}
	for _, k := range kinds {
		all = append(all, k+256, k-256, k+1<<16, k+1<<62, -k)
	}
	return all
}

// allFields are the paths of all that a request has, but its kind.
func allFields() []string {
	var all []string
	request, plan := reflect.TypeFor[api.Request](), reflect.TypeFor[api.Plan]()
	for i := range request.NumField() {
		switch f := request.Field(i); f.Name {
		case "Kind":
		case "Plan":
			for j := range plan.NumField() {
				all = append(all, "Plan."+plan.Field(j).Name)
			}
		default:
			all = append(all, f.Name)
		}
	}
	return all
}

// at is a request's field.
func at(r *api.Request, path string) reflect.Value {
	v := reflect.ValueOf(r).Elem()
	for name := range strings.SplitSeq(path, ".") {
		v = v.FieldByName(name)
	}
	return v
}

func isText(path string) bool { return at(new(api.Request), path).Kind() == reflect.String }

// full is a request that has all there is, each field another than all others, and each byte of its numbers.
func full(kind int) api.Request {
	r := api.Request{Kind: kind}
	for i, path := range allFields() {
		if isText(path) {
			at(&r, path).SetString(strings.Repeat(string(rune('a'+i)), i%5+1))
		} else {
			at(&r, path).SetInt(int64(0x1122334455667788 + i*0x0101010101010101))
		}
	}
	return r
}

// plain is a request without the fields that its bytes do not name.
func plain(r api.Request) api.Request {
	kept := api.Request{Kind: r.Kind}
	for _, path := range named[r.Kind] {
		at(&kept, path).Set(at(&r, path))
	}
	return kept
}

// row lays bytes one behind the other: an int, a text, a byte, or bytes that are laid already.
func row(fields ...any) []byte {
	var b []byte
	for _, x := range fields {
		switch x := x.(type) {
		case int:
			b = binary.BigEndian.AppendUint64(b, uint64(x))
		case string:
			b = append(append(b, byte(len(x))), x...)
		case byte:
			b = append(b, x)
		case []byte:
			b = append(b, x...)
		}
	}
	return b
}

func rowOfRequest(r api.Request) []byte {
	b := []byte{byte(r.Kind)}
	for _, path := range named[r.Kind] {
		b = append(b, row(at(&r, path).Interface())...)
	}
	return b
}

func rowOfStatement(s api.Statement) []byte {
	return row(s.Name, s.Term, s.From, s.To, s.Granted, s.Consumed, s.Expired, s.Rolled, s.Over)
}

func rowOfAnswer(a api.Answer) []byte {
	b := row(byte(a.Err), a.Left, a.Over, a.N)
	if a.Statement.Term == 0 {
		return append(b, 0)
	}
	return append(append(b, 1), rowOfStatement(a.Statement)...)
}

// steps goes over bytes; where they end too early, or may not be, it panics with the error.
type steps struct{ rest []byte }

func (s *steps) over(n int) []byte {
	if len(s.rest) < n {
		panic(api.ErrCut)
	}
	b := s.rest[:n]
	s.rest = s.rest[n:]
	return b
}

func (s *steps) octet() int { return int(s.over(1)[0]) }

func (s *steps) num() int { return int(binary.BigEndian.Uint64(s.over(8))) }

func (s *steps) text() string { return string(s.over(s.octet())) }

// wanted is what is asked of parsing bytes.
func wanted[T any](b []byte, read func(s *steps) T) (x T, e api.Errno) {
	s := &steps{slices.Clone(b)}
	defer func() {
		if was := recover(); was != nil {
			var none T
			x, e = none, was.(api.Errno)
		}
	}()
	x = read(s)
	if len(s.rest) > 0 {
		panic(api.ErrMore)
	}
	return x, api.OK
}

func readRequest(s *steps) api.Request {
	r := api.Request{Kind: s.octet()}
	if !slices.Contains(kinds, r.Kind) {
		panic(api.ErrKind)
	}
	for _, path := range named[r.Kind] {
		if isText(path) {
			at(&r, path).SetString(s.text())
		} else {
			at(&r, path).SetInt(int64(s.num()))
		}
	}
	return r
}

func readAnswer(s *steps) api.Answer {
	a := api.Answer{Err: api.Errno(s.octet()), Left: s.num(), Over: s.num(), N: s.num()}
	switch s.octet() {
	case 0:
	case 1:
		a.Statement = api.Statement{Name: s.text(), Term: s.num(), From: s.num(), To: s.num(), Granted: s.num(), Consumed: s.num(), Expired: s.num(), Rolled: s.num(), Over: s.num()}
		if a.Statement.Term == 0 {
			panic(api.ErrBad)
		}
	default:
		panic(api.ErrBad)
	}
	return a
}

// encodes holds a request's bytes against what P1801 says of them, there and back.
func encodes(t *testing.T, what string, r api.Request) {
	t.Helper()
	want := rowOfRequest(r)
	b, e := frame.EncodeRequest(r)
	if e != api.OK {
		t.Errorf("P1801: %s: kind %d: %v", what, r.Kind, e)
		return
	}
	sameBytes(t, "P1801: "+what, b, want)
	back, e := frame.ParseRequest(want)
	if e != api.OK || back != plain(r) {
		t.Errorf("P1803: %s: kind %d: %+v, %v", what, r.Kind, back, e)
	}
	if !frame.SameRequest(back, r) || !frame.SameRequest(r, back) {
		t.Errorf("P1801: %s: kind %d: parsed it is not the same", what, r.Kind)
	}
}

// refuses holds EncodeRequest to an error, and to no bytes beside it.
func refuses(t *testing.T, what string, r api.Request, want api.Errno) {
	t.Helper()
	if b, e := frame.EncodeRequest(r); e != want || len(b) != 0 {
		t.Errorf("P1801: %s: kind %d: %d bytes, %v, not %v", what, r.Kind, len(b), e, want)
	}
}

// answers holds an answer's bytes against P1802, there and back.
func answers(t *testing.T, what string, a api.Answer) {
	t.Helper()
	want := rowOfAnswer(a)
	sameBytes(t, "P1802: "+what, frame.EncodeAnswer(a), want)
	if back, e := frame.ParseAnswer(want); e != api.OK || back != a {
		t.Errorf("P1803: %s: %+v, %v, not %+v", what, back, e, a)
	}
}

// checkBytes holds what is parsed of any bytes against all three promises.
func checkBytes(t *testing.T, b []byte) {
	t.Helper()
	kept := slices.Clone(b)
	r, e := frame.ParseRequest(b)
	if want, fault := wanted(b, readRequest); e != fault || r != want {
		t.Errorf("P1801: ParseRequest(%s): %+v, %v, not %+v, %v", short(b), r, e, want, fault)
	} else if e == api.OK {
		again, e := frame.EncodeRequest(r)
		if e != api.OK {
			t.Errorf("P1803: EncodeRequest of what %s says: %v", short(b), e)
		}
		sameBytes(t, "P1803: a request", again, b)
	}
	a, e := frame.ParseAnswer(b)
	if want, fault := wanted(b, readAnswer); e != fault || a != want {
		t.Errorf("P1802: ParseAnswer(%s): %+v, %v, not %+v, %v", short(b), a, e, want, fault)
	} else if e == api.OK {
		sameBytes(t, "P1803: an answer", frame.EncodeAnswer(a), b)
	}
	sameBytes(t, "P2: what was parsed", b, kept)
}

// told is an answer with a statement, each number another one.
func told() api.Answer {
	return api.Answer{Err: 24, Left: 0x0102030405060708, Over: -2, N: 3, Statement: api.Statement{Name: "anna", Term: 5, From: 6, To: 7, Granted: 8, Consumed: 9, Expired: 10, Rolled: 11, Over: -12}}
}

// source is numbers and texts, the same ones each time, an edge as often as not.
type source struct{ *rand.Rand }

func sourceOf(seed int) source { return source{rand.New(rand.NewPCG(uint64(seed), 18))} }

func (s source) num() int {
	edges := []int{0, 1, -1, 255, 256, math.MaxInt, math.MinInt}
	if s.IntN(2) == 0 {
		return edges[s.IntN(len(edges))]
	}
	return int(s.Uint64())
}

func (s source) text() string {
	sizes := []int{0, 1, 2, 24, 48, 254, 255}
	b := make([]byte, sizes[s.IntN(len(sizes))])
	for i := range b {
		b[i] = byte(s.Uint32())
	}
	return string(b)
}

func (s source) request() api.Request {
	r := api.Request{Kind: kinds[s.IntN(len(kinds))]}
	for _, path := range allFields() {
		if isText(path) {
			at(&r, path).SetString(s.text())
		} else {
			at(&r, path).SetInt(int64(s.num()))
		}
	}
	return r
}

func (s source) answer() api.Answer {
	a := api.Answer{Err: api.Errno(s.IntN(256)), Left: s.num(), Over: s.num(), N: s.num()}
	if term := s.num(); term != 0 {
		a.Statement = api.Statement{Name: s.text(), Term: term, From: s.num(), To: s.num(), Granted: s.num(), Consumed: s.num(), Expired: s.num(), Rolled: s.num(), Over: s.num()}
	}
	return a
}

// short is bytes for a message.
func short(b []byte) string {
	if len(b) > 60 {
		return hex.EncodeToString(b[:60]) + ".."
	}
	return hex.EncodeToString(b)
}

// sameBytes fails where they are not.
func sameBytes(t *testing.T, what string, got, want []byte) {
	t.Helper()
	if string(got) != string(want) {
		n := 0
		for n < len(got) && n < len(want) && got[n] == want[n] {
			n++
		}
		t.Errorf("%s: %d bytes, not %d; from byte %d on %s, not %s", what, len(got), len(want), n, short(got[n:]), short(want[n:]))
	}
}
