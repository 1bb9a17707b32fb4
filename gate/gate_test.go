package gate_test

import (
	"strconv"
	"strings"
	"testing"

	"toll/api"
	"toll/gate"
)

const (
	letters = "abcdefghijklmnopqrstuvwxyz0123456789-"
	longest = "a-name-of-twenty-4-bytes" // api.MaxName bytes
)

// goodNames may be keys and names, badNames neither.
var (
	goodNames = []string{"a", "z", "0", "9", "-", "---", "root", "k-1", "0123456789", longest, strings.Repeat("-", api.MaxName)}
	badNames  = []string{"", "A", "K", "Root", "a b", " a", "a ", "a\n", "\na", "a_b", "a.b", "a/b", "a:b", "`", "{", "a\x00", "\x00", "\xff", "é", "ａ", "日本", longest + "x", strings.Repeat("a", 1000), strings.Repeat("é", 12)}
)

// TestP1601New: a new gate knows the admin's key, whatever text that is, and no other.
func TestP1601New(t *testing.T) {
	admins := append(append([]string{strings.Repeat("x", 1<<20)}, goodNames...), badNames...)
	for _, admin := range admins {
		made(t, admin).isAdmins(admin)
		r := made(t, admin)
		refused := 0
		for _, key := range admins {
			if key != admin {
				r.isNobodys(key)
				refused++
			}
		}
		r.counts(refused, refused)
		r.isAdmins(admin)
		r.isNobodys(admin + "a")
		r.isNobodys("a" + admin)
		r.counts(refused+3, refused+2)
	}
}

// TestP1601NewOdd: an admin's key that is no plan.Name can't be added either, by the error that is said first; it stays the admin's.
func TestP1601NewOdd(t *testing.T) {
	for _, admin := range badNames {
		for _, name := range []string{"a", "A", "", admin} {
			r := made(t, admin)
			r.adds(admin, name, api.ErrArg)
			r.counts(0, 0)
			r.isAdmins(admin)
			r.adds("k", "a", api.OK)
			r.isOf("k", "a")
			r.isAdmins(admin)
			r.counts(3, 0)
		}
	}
}

// TestP1601AddArg: a key that is no plan.Name, a name that is none, both; nothing comes of it.
func TestP1601AddArg(t *testing.T) {
	for _, bad := range badNames {
		r := made(t, "root")
		r.adds(bad, "a", api.ErrArg)
		r.adds("k", bad, api.ErrArg)
		r.adds(bad, bad, api.ErrArg)
		for _, worse := range badNames {
			r.adds(bad, worse, api.ErrArg)
		}
		r.counts(0, 0)
		r.isNobodys(bad)
		r.isNobodys("k")
		r.isNobodys("a")
		r.isAdmins("root")
		r.counts(4, 3)
		r.adds("k", "a", api.OK) // what was refused can still be added, as it should be
		r.isOf("k", "a")
	}
}

// TestP1601AddOk: each text that is a plan.Name may be a key, and a name.
func TestP1601AddOk(t *testing.T) {
	for _, key := range goodNames {
		for _, name := range goodNames {
			r := made(t, "admin")
			r.isNobodys(key)
			r.adds(key, name, api.OK)
			r.isOf(key, name)
			r.isOf(key, name)
			r.isAdmins("admin")
			r.counts(4, 1)
		}
	}
}

// TestP1601AddAdmin: the admin's key: ErrIs; ErrArg, where the name is none.
func TestP1601AddAdmin(t *testing.T) {
	for _, admin := range goodNames {
		r := made(t, admin)
		for _, name := range goodNames {
			r.adds(admin, name, api.ErrIs)
		}
		for _, bad := range badNames {
			r.adds(admin, bad, api.ErrArg)
		}
		r.counts(0, 0)
		r.isAdmins(admin)
		r.adds(admin, "a", api.ErrIs)
		r.isAdmins(admin)
		r.counts(2, 0)
	}
}

// TestP1601AddIs: a key that is somebody's: ErrIs, by the same name and by another; ErrArg, where the name is none.
func TestP1601AddIs(t *testing.T) {
	for _, key := range []string{"k", "a", "b", "-", longest} {
		r := made(t, "root")
		r.adds(key, "a", api.OK)
		for _, name := range []string{"a", "b", "root", key, longest} {
			r.adds(key, name, api.ErrIs)
			r.isOf(key, "a")
		}
		for _, bad := range badNames {
			r.adds(key, bad, api.ErrArg)
		}
		r.isOf(key, "a")
		r.counts(6, 0)
	}
}

// TestP1601AddTwo: one name may have many keys; keys and names do not meet.
func TestP1601AddTwo(t *testing.T) {
	r := made(t, "root")
	r.adds("k", "a", api.OK)
	r.adds("q", "a", api.OK)
	r.adds("a", "b", api.OK) // somebody's name as a key
	r.adds("b", "b", api.OK)
	r.adds("z", "root", api.OK) // the admin's key as a name
	r.counts(0, 0)
	r.isOf("k", "a")
	r.isOf("q", "a")
	r.isOf("a", "b")
	r.isOf("b", "b")
	r.isOf("z", "root")
	r.isAdmins("root")
	r.counts(6, 0)
	r.adds("q", "b", api.ErrIs)
	r.isOf("q", "a")
	r.isOf("k", "a")
}

// TestP1601Who: of a key that was refused by Add, of nobody's, of an empty and of a long one.
func TestP1601Who(t *testing.T) {
	r := made(t, "root")
	r.adds("k", "a", api.OK)
	r.adds("K", "a", api.ErrArg)
	r.adds("q", "A", api.ErrArg)
	r.adds(longest+"x", "a", api.ErrArg)
	r.isNobodys("K")
	r.isNobodys("q")
	r.isNobodys(longest + "x")
	r.isNobodys("")
	r.isNobodys("a")
	r.isNobodys("nobody")
	for n := range 300 {
		r.isNobodys(strings.Repeat("k", n+2))
	}
	r.isNobodys(strings.Repeat("root", 1<<20))
	r.counts(307, 307)
	r.isOf("k", "a")
	r.isAdmins("root")
	r.counts(309, 307)
}

// TestP1601Counts: what is counted behind each call, worked out by hand.
func TestP1601Counts(t *testing.T) {
	g := gate.New("root")
	asked, refused := 0, 0
	for i, c := range []struct {
		call          func()
		asks, refuses int
	}{
		{func() {}, 0, 0},
		{func() { g.Who("k") }, 1, 1},
		{func() { g.Add("k", "a") }, 0, 0},
		{func() { g.Who("k") }, 1, 0},
		{func() { g.Add("k", "a") }, 0, 0},
		{func() { g.Add("root", "a") }, 0, 0},
		{func() { g.Add("", "") }, 0, 0},
		{func() { g.Who("root") }, 1, 0},
		{func() { g.Who("root") }, 1, 0},
		{func() { g.Who("") }, 1, 1},
		{func() { g.Who("") }, 1, 1},
		{func() { g.Who("a") }, 1, 1},
		{func() { g.Asked(); g.Refused() }, 0, 0},
		{func() { g.Who(strings.Repeat("k", 1<<16)) }, 1, 1},
		{func() { g.Who("k") }, 1, 0},
	} {
		c.call()
		asked, refused = asked+c.asks, refused+c.refuses
		if g.Asked() != asked || g.Refused() != refused {
			t.Errorf("P1601: behind call %d: Asked() is %d, Refused() is %d, not %d, %d", i, g.Asked(), g.Refused(), asked, refused)
		}
	}
}

// TestP1601CountsFar: beyond what a number of 8 or 16 bits holds.
func TestP1601CountsFar(t *testing.T) {
	r := made(t, "root")
	for range 70000 {
		r.g.Who("k")
	}
	r.counts(70000, 70000)
	r.g.Add("k", "a")
	for range 70000 {
		r.g.Who("k")
	}
	r.counts(140000, 70000)
}

// changed are all texts that differ from one in one sign: another one, one more, one less.
func changed(s string) []string {
	var all []string
	for i := range len(s) + 1 {
		for _, sign := range letters + "A_ " {
			if i < len(s) && string(sign) != s[i:i+1] {
				all = append(all, s[:i]+string(sign)+s[i+1:])
			}
			all = append(all, s[:i]+string(sign)+s[i:])
		}
		if i < len(s) {
			all = append(all, s[:i]+s[i+1:])
		}
	}
	return all
}

// TestP1601Near: keys that differ in one sign are not one another, be it the admin's or somebody's.
func TestP1601Near(t *testing.T) {
	for _, key := range []string{"r", "root", "-0", longest[1:], longest} {
		admins, tenants := made(t, key), made(t, "other")
		tenants.adds(key, "a", api.OK)
		for _, near := range changed(key) {
			admins.isNobodys(near)
			tenants.isNobodys(near)
		}
		for i, near := range changed(key) {
			admins.tries(near, "b"+strconv.Itoa(i))
			tenants.tries(near, "b"+strconv.Itoa(i))
		}
		for _, near := range changed(key) {
			admins.asks(near)
			tenants.asks(near)
		}
		admins.isAdmins(key)
		tenants.isOf(key, "a")
	}
}

// TestP1601Many: many keys, each its own name's, asked in another order than they were added in.
func TestP1601Many(t *testing.T) {
	const n = 20000
	g := gate.New("root")
	key := func(i int) string { return "k" + strconv.Itoa(i) }
	name := func(i int) string { return "n-" + strconv.Itoa(i/3) }
	for i := range n {
		if e := g.Add(key(i), name(i)); e != api.OK {
			t.Fatalf("P1601: key %d: %v", i, e)
		}
	}
	for j := range n {
		i := j * 7919 % n
		if got, admin, e := g.Who(key(i)); got != name(i) || admin || e != api.OK {
			t.Fatalf("P1601: key %d: %q, %t, %v", i, got, admin, e)
		}
		if e := g.Add(key(i), name(j)); e != api.ErrIs {
			t.Fatalf("P1602: key %d again: %v", i, e)
		}
		if _, _, e := g.Who(key(n + i)); e != api.ErrAuth {
			t.Fatalf("P1601: key %d, which was not added: %v", n+i, e)
		}
	}
	if _, admin, e := g.Who("root"); !admin || e != api.OK {
		t.Errorf("P1601: the admin's key among many: %t, %v", admin, e)
	}
	if g.Asked() != 2*n+1 || g.Refused() != n {
		t.Errorf("P1601: Asked() is %d, Refused() is %d", g.Asked(), g.Refused())
	}
}

// TestP1601Example: the chapter's.
func TestP1601Example(t *testing.T) {
	if e := gate.New("root").Add("root", "a"); e != api.ErrIs {
		t.Errorf("P1601: New(root): Add(root, a): %v", e)
	}
}

// TestP1602Good: whatever is added and asked behind it, a key stays whose it was.
func TestP1602Good(t *testing.T) {
	r := made(t, "root")
	for i, key := range goodNames {
		r.tries(key, "n"+strconv.Itoa(i))
		r.isWhole()
		for _, other := range goodNames {
			r.tries(key, other)
			r.tries(other, "A")
			r.tries("A", other)
			r.asks("none-" + strconv.Itoa(i))
		}
		r.isWhole()
	}
	r.isWhole()
}

// TestP1602Lives: scripts of calls, held against the plain reading.
func TestP1602Lives(t *testing.T) {
	for seed := range 200 {
		d := thrown(1500, uint64(seed))
		r := made(t, d.text())
		for len(d) > 0 {
			r.goesOn(&d)
			if len(d)%40 == 0 {
				r.isWhole()
			}
		}
		r.isWhole()
	}
}
