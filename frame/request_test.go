package frame_test

import (
	"math"
	"slices"
	"strings"
	"testing"

	"toll/api"
	"toll/frame"
)

// TestP1801Example: the document's.
func TestP1801Example(t *testing.T) {
	b, e := frame.EncodeRequest(api.Request{Kind: api.KShow, Key: "k"})
	if e != api.OK {
		t.Errorf("P1801: %v", e)
	}
	sameBytes(t, "P1801", b, []byte{0x05, 0x01, 0x6b})
	if r, e := frame.ParseRequest([]byte{0x05, 0x01, 0x6b}); e != api.OK || r != (api.Request{Kind: api.KShow, Key: "k"}) {
		t.Errorf("P1801: %+v, %v", r, e)
	}
}

// TestP1801Bytes: each kind's, written out; all other fields are set too, and not written.
func TestP1801Bytes(t *testing.T) {
	all := api.Request{Key: "key", Id: 1, N: 2, TTL: 3, Of: 4, Name: "na", Secret: "s", Plan: api.Plan{Name: "p", Version: 5, Allowance: 6, Kind: 7, Anchor: 8, Days: 9, Cap: 10, Mode: 11, Burst: 12, Rate: -13}}
	plan := api.Plan{Name: "p", Version: 5}
	for _, c := range []struct {
		tail   []byte
		parsed api.Request
	}{
		{row(1, 2, 3), api.Request{Kind: api.KHold, Id: 1, N: 2, TTL: 3}},
		{row(1, 2, 3), api.Request{Kind: api.KPack, Id: 1, N: 2, TTL: 3}},
		{row(1, 4, 2), api.Request{Kind: api.KCommit, Id: 1, Of: 4, N: 2}},
		{row(1, 4), api.Request{Kind: api.KRelease, Id: 1, Of: 4}},
		{nil, api.Request{Kind: api.KShow}},
		{row("p", 5, 6, 7, 8, 9, 10, 11, 12, -13), api.Request{Kind: api.KPlan, Plan: all.Plan}},
		{row("na", "s", "p", 5), api.Request{Kind: api.KTenant, Name: "na", Secret: "s", Plan: plan}},
		{row("na", "p", 5), api.Request{Kind: api.KChange, Name: "na", Plan: plan}},
		{row(2), api.Request{Kind: api.KClose, N: 2}},
		{row("na", 2), api.Request{Kind: api.KTerms, Name: "na", N: 2}},
	} {
		r := all
		r.Kind, c.parsed.Key = c.parsed.Kind, "key"
		want := row(byte(r.Kind), []byte{3, 'k', 'e', 'y'}, c.tail)
		for _, r := range []api.Request{r, c.parsed} {
			b, e := frame.EncodeRequest(r)
			if e != api.OK {
				t.Errorf("P1801: kind %d: %v", r.Kind, e)
			}
			sameBytes(t, "P1801", b, want)
		}
		if got, e := frame.ParseRequest(want); e != api.OK || got != c.parsed {
			t.Errorf("P1801: kind %d: %+v, %v", r.Kind, got, e)
		}
	}
}

// TestP1801Fields: of each kind those that its bytes name, and no others, whatever these are.
func TestP1801Fields(t *testing.T) {
	for _, kind := range kinds {
		encodes(t, "all fields", full(kind))
		encodes(t, "no fields", api.Request{Kind: kind})
		encodes(t, "its fields alone", plain(full(kind)))
		for _, path := range allFields() {
			r := full(kind)
			at(&r, path).SetZero()
			encodes(t, "without "+path, r)
			r = api.Request{Kind: kind}
			s := full(kind)
			at(&r, path).Set(at(&s, path))
			encodes(t, path+" alone", r)
		}
	}
}

// TestP1801Texts: of 255 bytes at most, where the kind has them; of others nothing is asked.
func TestP1801Texts(t *testing.T) {
	for _, kind := range kinds {
		for _, path := range allFields() {
			if !isText(path) {
				continue
			}
			for _, size := range []int{0, 1, 24, 127, 128, 254, 255, 256, 257, 300, 511, 512, 513, 1 << 16} {
				for _, r := range []api.Request{full(kind), {Kind: kind}} {
					at(&r, path).SetString(strings.Repeat("\xff\x00", size/2+1)[:size])
					if size > 255 && slices.Contains(named[kind], path) {
						refuses(t, path, r, api.ErrLong)
					} else {
						encodes(t, path, r)
					}
				}
			}
		}
	}
}

// TestP1801LongAll: all texts at once, the longest ones that may be, and those that may not.
func TestP1801LongAll(t *testing.T) {
	for _, kind := range kinds {
		r := full(kind)
		for _, path := range allFields() {
			if isText(path) {
				at(&r, path).SetString(strings.Repeat("z", 255))
			}
		}
		encodes(t, "longest texts", r)
		for _, path := range allFields() {
			if isText(path) {
				at(&r, path).SetString(strings.Repeat("z", 256))
			}
		}
		refuses(t, "texts", r, api.ErrLong)
	}
}

// TestP1801NoKind: there is no such kind: no bytes; that is said ahead of texts that are too long.
func TestP1801NoKind(t *testing.T) {
	long := strings.Repeat("x", 256)
	for _, kind := range notKinds() {
		refuses(t, "no kind", full(kind), api.ErrKind)
		refuses(t, "no kind, no fields", api.Request{Kind: kind}, api.ErrKind)
		refuses(t, "no kind, texts that are too long", api.Request{Kind: kind, Key: long, Name: long, Secret: long, Plan: api.Plan{Name: long}}, api.ErrKind)
		refuses(t, "no kind, a key that is too long", api.Request{Kind: kind, Key: long}, api.ErrKind)
	}
}

// TestP1801Ints: below 0, the least, the greatest, each byte.
func TestP1801Ints(t *testing.T) {
	edges := []int{0, 1, -1, 127, 128, -128, -129, 255, 256, -256, 1<<31 - 1, 1 << 31, -1 << 31, 1 << 32, math.MaxInt, math.MaxInt - 1, math.MinInt, math.MinInt + 1}
	for shift := range 64 {
		edges = append(edges, 1<<shift, ^(1 << shift))
	}
	for _, kind := range kinds {
		for _, path := range allFields() {
			if isText(path) {
				continue
			}
			for _, n := range edges {
				for _, r := range []api.Request{full(kind), {Kind: kind}} {
					at(&r, path).SetInt(int64(n))
					encodes(t, path, r)
				}
			}
		}
	}
}

// cuts are requests whose bytes are cut off anywhere.
func cuts() []api.Request {
	var all []api.Request
	for _, kind := range kinds {
		long := full(kind)
		for _, path := range allFields() {
			if isText(path) {
				at(&long, path).SetString(strings.Repeat("z", 255))
			}
		}
		all = append(all, full(kind), api.Request{Kind: kind}, long)
	}
	return all
}

// TestP1801Cut: each front of a request's bytes, with spare room in which the rest stands, and without.
func TestP1801Cut(t *testing.T) {
	for _, r := range cuts() {
		b := rowOfRequest(r)
		for n := range b {
			for _, front := range [][]byte{b[:n], b[:n:n]} {
				if got, e := frame.ParseRequest(front); e != api.ErrCut || got != (api.Request{}) {
					t.Errorf("P1801: kind %d: %d bytes of %d: %+v, %v", r.Kind, n, len(b), got, e)
				}
			}
		}
	}
}

// TestP1801NoBytes: of none there is no kind to be asked.
func TestP1801NoBytes(t *testing.T) {
	for _, b := range [][]byte{nil, {}, make([]byte, 0, 9), append(make([]byte, 0, 3), 5, 1, 'k')[:0]} {
		if got, e := frame.ParseRequest(b); e != api.ErrCut || got != (api.Request{}) {
			t.Errorf("P1801: no bytes: %+v, %v", got, e)
		}
	}
}

// TestP1801ParseNoKind: a byte that is no kind, whatever is behind it, and if nothing is.
func TestP1801ParseNoKind(t *testing.T) {
	for kind := range 256 {
		if slices.Contains(kinds, kind) {
			continue
		}
		for _, tail := range [][]byte{nil, {0}, {255}, row("key"), row("key", 1, 2, 3), row("key", 1, 2, 3, byte(9)), rowOfRequest(full(api.KTenant))[1:], rowOfRequest(full(api.KPlan))[1:], make([]byte, 600)} {
			if got, e := frame.ParseRequest(row(byte(kind), tail)); e != api.ErrKind || got != (api.Request{}) {
				t.Errorf("P1801: kind %d and %d bytes: %+v, %v", kind, len(tail), got, e)
			}
		}
	}
}

// TestP1801More: bytes behind the end.
func TestP1801More(t *testing.T) {
	for _, r := range cuts() {
		for _, more := range [][]byte{{0}, {1}, {255}, make([]byte, 8), make([]byte, 600), rowOfRequest(r)} {
			if got, e := frame.ParseRequest(row(rowOfRequest(r), more)); e != api.ErrMore || got != (api.Request{}) {
				t.Errorf("P1801: kind %d and %d bytes more: %+v, %v", r.Kind, len(more), got, e)
			}
		}
	}
}

// otherwise changes a field in several ways, one each time.
func otherwise(r api.Request, path string) []api.Request {
	var all []api.Request
	if isText(path) {
		was := at(&r, path).String()
		for _, text := range []string{was + "\x00", was[1:], "", "\xff" + was[1:], strings.ToUpper(was), strings.Repeat("y", 256), strings.Repeat("y", 512)} {
			x := r
			at(&x, path).SetString(text)
			all = append(all, x)
		}
		return all
	}
	was := at(&r, path).Int()
	for _, n := range []int64{was + 1, was - 1, -was, 0, was ^ 1<<62, was ^ 1<<32, was ^ math.MinInt64} {
		x := r
		at(&x, path).SetInt(n)
		all = append(all, x)
	}
	return all
}

// same holds SameRequest to its answer, both ways round.
func same(t *testing.T, what string, a, b api.Request, want bool) {
	t.Helper()
	if x, y := frame.SameRequest(a, b), frame.SameRequest(b, a); x != want || y != want {
		t.Errorf("P1801: SameRequest, %s, of kinds %d and %d: %t, turned round %t, not %t", what, a.Kind, b.Kind, x, y, want)
	}
}

// TestP1801Same: what parts two requests is a field that their kind names.
func TestP1801Same(t *testing.T) {
	for _, kind := range kinds {
		r := full(kind)
		same(t, "itself", r, full(kind), true)
		same(t, "its fields alone", r, plain(r), true)
		same(t, "nothing", api.Request{Kind: kind}, api.Request{Kind: kind}, true)
		same(t, "nothing and all", api.Request{Kind: kind}, r, false)
		for _, path := range allFields() {
			for _, x := range otherwise(r, path) {
				same(t, path, x, r, !slices.Contains(named[kind], path))
			}
		}
	}
}

// TestP1801SameLong: texts of which there are no bytes can be held against each other all the same.
func TestP1801SameLong(t *testing.T) {
	for _, kind := range kinds {
		for _, path := range allFields() {
			if !isText(path) {
				continue
			}
			a, b, c, d := full(kind), full(kind), full(kind), full(kind)
			at(&a, path).SetString(strings.Repeat("y", 256))
			at(&b, path).SetString(strings.Repeat("y", 256))
			at(&c, path).SetString(strings.Repeat("y", 255) + "z")
			at(&d, path).SetString(strings.Repeat("y", 512))
			same(t, path, a, b, true)
			same(t, path, a, c, !slices.Contains(named[kind], path))
			same(t, path, a, d, !slices.Contains(named[kind], path))
		}
	}
}

// TestP1801SameKinds: two kinds are never the same, whatever fields they have.
func TestP1801SameKinds(t *testing.T) {
	all := append(notKinds(), kinds...)
	x, y := full(0), full(0)
	for _, x.Kind = range all {
		for _, y.Kind = range all {
			a, b := x.Kind, y.Kind
			if slices.Contains(kinds, a) && a == b {
				continue
			}
			same(t, "the same fields", x, y, a == b)
			same(t, "no fields", api.Request{Kind: a}, api.Request{Kind: b}, a == b)
			same(t, "other fields", x, api.Request{Kind: b}, a == b)
		}
	}
}

// TestP1801SameNoKind: of no such kind the kinds alone count.
func TestP1801SameNoKind(t *testing.T) {
	for _, kind := range notKinds() {
		r := full(kind)
		for _, path := range allFields() {
			for _, x := range otherwise(r, path) {
				same(t, path, x, r, true)
			}
		}
	}
}
