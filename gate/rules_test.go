package gate_test

import (
	"slices"
	"strings"
	"sync"
	"testing"
	"unsafe"

	"toll/api"
	"toll/gate"
)

// TestP1Wild: whatever texts there are, each call ends and none panics.
func TestP1Wild(t *testing.T) {
	wild := []string{"", "\x00", "\xff\xfe", "\xed\xa0\x80", strings.Repeat("\xff", 5000), strings.Repeat("a", 1<<22), strings.Repeat("é", 1<<20), "\u202e", "%s%n", "k"}
	for _, admin := range wild {
		r := made(t, admin)
		for _, key := range wild {
			for _, name := range wild {
				r.tries(key, name)
				r.asks(key)
			}
		}
		r.isWhole()
	}
}

// lent is a text whose bytes its owner may write over.
func lent(s string) (string, []byte) {
	b := []byte(s)
	return unsafe.String(unsafe.SliceData(b), len(b)), b
}

// spoil writes over bytes; what becomes of them is a name, so that it could be taken for one.
func spoil(all ...[]byte) {
	for _, b := range all {
		for i := range b {
			b[i] = 'x'
		}
	}
}

// TestP2Admin: New keeps nothing of what it is handed, be the gate called ahead of that or not.
func TestP2Admin(t *testing.T) {
	for _, early := range []bool{false, true} {
		admin, b := lent("root")
		g := gate.New(admin)
		if early {
			g.Who("k")
		}
		spoil(b)
		if _, is, e := g.Who("root"); !is || e != api.OK {
			t.Errorf("P2: the admin's key is %t, %v, once what was handed in was written over", is, e)
		}
		if _, is, e := g.Who("xxxx"); is || e != api.ErrAuth {
			t.Errorf("P2: what was handed in is kept: %t, %v", is, e)
		}
		if e := g.Add("root", "a"); e != api.ErrIs {
			t.Errorf("P2: Add of the admin's key: %v", e)
		}
		if e := g.Add("xxxx", "a"); e != api.OK {
			t.Errorf("P2: Add of another: %v", e)
		}
	}
}

// TestP2Add: Add keeps nothing of what it is handed.
func TestP2Add(t *testing.T) {
	r := made(t, "root")
	for _, k := range goodNames {
		if k == "root" {
			continue
		}
		key, b := lent(k)
		name, c := lent("anna-" + k[:1])
		r.p.add(k, "anna-"+k[:1])
		if e := r.g.Add(key, name); e != api.OK {
			t.Fatalf("P1601: Add(%q, %q): %v", key, name, e)
		}
		spoil(b, c)
		r.isOf(k, "anna-"+k[:1])
	}
	r.isNobodys("x")
	r.isNobodys("xxx")
	r.isWhole()
}

// TestP2Piece: a key that is a piece of a longer text, as one of a frame is.
func TestP2Piece(t *testing.T) {
	whole, b := lent("..key-1anna..")
	g := gate.New("root")
	if e := g.Add(whole[2:7], whole[7:11]); e != api.OK {
		t.Fatalf("P1601: %v", e)
	}
	if string(b) != "..key-1anna.." {
		t.Errorf("P2: what was handed in was changed: %q", b)
	}
	spoil(b)
	if n, _, e := g.Who("key-1"); n != "anna" || e != api.OK {
		t.Errorf("P2: %q, %v, once what was handed in was written over", n, e)
	}
}

// TestP2Who: Who keeps nothing of the key that it is asked, and what it answered stays.
func TestP2Who(t *testing.T) {
	r := made(t, "root")
	r.adds("key", "anna", api.OK)
	for _, k := range []string{"key", "root", "kex", ""} {
		key, b := lent(k)
		n, admin, e := r.g.Who(key)
		spoil(b)
		r.p.who(k)
		if name, is, was := r.asks(k); n != name || admin != is || e != was {
			t.Errorf("P2: Who(%q): %q, %t, %v, then %q, %t, %v", k, n, admin, e, name, is, was)
		}
		r.isNobodys(strings.Repeat("x", len(k)))
	}
	name, _, _ := r.g.Who("key")
	for range 50 {
		r.g.Add("key", "else")
		r.g.Who("root")
	}
	if name != "anna" {
		t.Errorf("P2: what was answered is %q now", name)
	}
}

// told are all answers of a script of calls.
func told(d dice) []string {
	var out []string
	g := gate.New(d.text())
	for len(d) > 0 {
		if d.roll(2) == 0 {
			out = append(out, g.Add(d.text(), d.text()).Error())
			continue
		}
		name, admin, e := g.Who(d.text())
		out = append(out, name, e.Error())
		if admin {
			out = append(out, "admin")
		}
	}
	return append(out, strings.Repeat("a", g.Asked()), strings.Repeat("r", g.Refused()))
}

// TestP3Again: the same calls in the same order answer the same.
func TestP3Again(t *testing.T) {
	for seed := range 50 {
		first := told(thrown(400, uint64(seed)))
		told(thrown(400, uint64(seed+1000)))
		if again := told(thrown(400, uint64(seed))); !slices.Equal(first, again) {
			t.Fatalf("P3: of seed %d: %q, then %q", seed, first, again)
		}
	}
}

// TestP5Refused: an Add that is refused, and a Who, change nothing that a later call could tell, but what was asked.
func TestP5Refused(t *testing.T) {
	for _, key := range append(slices.Clone(badNames), goodNames...) {
		r := made(t, "root")
		r.adds("k", "a", api.OK)
		r.adds("k", "b", api.ErrIs)
		r.adds("root", "b", api.ErrIs)
		r.adds(key, "B", api.ErrArg)
		r.asks(key)
		r.asks(key)
		if !aName.MatchString(key) || key == "root" {
			continue
		}
		r.isNobodys(key)
		r.adds(key, "c", api.OK)
		r.isOf(key, "c")
		r.isOf("k", "a")
	}
}

// TestP7Two: gates side by side do not see one another.
func TestP7Two(t *testing.T) {
	a, b, c := made(t, "root"), made(t, "root"), made(t, "k")
	a.adds("k", "anna", api.OK)
	b.isNobodys("k")
	c.isAdmins("k")
	a.counts(0, 0)
	b.adds("k", "bert", api.OK)
	c.adds("k", "carl", api.ErrIs)
	c.adds("root", "carl", api.OK)
	a.isOf("k", "anna")
	b.isOf("k", "bert")
	c.isOf("root", "carl")
	a.isAdmins("root")
	b.isAdmins("root")
	c.isAdmins("k")
	a.isNobodys("q")
	a.counts(3, 1)
	b.counts(3, 1)
	c.counts(3, 0)
}

// TestWaysAtOnce: the map is made once and what was asked is counted by atomics, so those who only ask may do so at once.
func TestWaysAtOnce(t *testing.T) {
	const workers, each = 16, 500
	for _, admin := range []string{"root", ""} {
		g := gate.New(admin)
		var all sync.WaitGroup
		for range workers {
			all.Go(func() {
				for range each {
					if _, is, e := g.Who(admin); !is || e != api.OK {
						t.Errorf("P1601: the admin's key: %t, %v", is, e)
					}
					if _, _, e := g.Who("k"); e != api.ErrAuth {
						t.Errorf("P1601: nobody's key: %v", e)
					}
				}
			})
		}
		all.Wait()
		if g.Asked() != 2*workers*each || g.Refused() != workers*each {
			t.Errorf("P1601: Asked() is %d, Refused() is %d", g.Asked(), g.Refused())
		}
	}
}

// FuzzCalls makes calls as its bytes say, and as its texts are, and holds all that is answered against the plain reading.
func FuzzCalls(f *testing.F) {
	f.Add("root", "k", "a", []byte{5, 1, 1, 0, 1, 1, 0, 3, 1, 1, 0})
	f.Add("", "K", "", []byte(thrown(100, 3)))
	f.Add("k", "k", "a", []byte(thrown(200, 7)))
	f.Fuzz(func(t *testing.T, admin, key, name string, b []byte) {
		d := dice(b[:min(len(b), 600)])
		r := made(t, admin)
		r.tries(key, name)
		for len(d) > 0 {
			r.goesOn(&d)
		}
		r.asks(key)
		r.tries(key, name)
		r.tries(name, key)
		r.asks(name)
		r.isWhole()
	})
}
