package gate_test

import (
	"regexp"
	"testing"

	"toll/api"
	"toll/gate"
)

// aName is the plain reading of plan.Name.
var aName = regexp.MustCompile(`\A[a-z0-9-]{1,24}\z`)

// plain is the plain reading of the chapter: keys and names in the order in which they were added, gone through one by one.
type plain struct {
	admin          string
	keys, names    []string
	asked, refused int
}

func (p *plain) add(key, name string) api.Errno {
	if !aName.MatchString(key) || !aName.MatchString(name) {
		return api.ErrArg
	}
	if _, _, e := p.find(key); e == api.OK {
		return api.ErrIs
	}
	p.keys, p.names = append(p.keys, key), append(p.names, name)
	return api.OK
}

func (p *plain) find(key string) (string, bool, api.Errno) {
	if key == p.admin {
		return "", true, api.OK
	}
	for i, k := range p.keys {
		if k == key {
			return p.names[i], false, api.OK
		}
	}
	return "", false, api.ErrAuth
}

func (p *plain) who(key string) (string, bool, api.Errno) {
	name, admin, e := p.find(key)
	p.asked++
	if e == api.ErrAuth {
		p.refused++
	}
	return name, admin, e
}

// rig is a gate and the plain one, side by side.
type rig struct {
	t *testing.T
	g *gate.Gate
	p plain
}

func made(t *testing.T, admin string) *rig {
	t.Helper()
	r := &rig{t: t, g: gate.New(admin), p: plain{admin: admin}}
	r.counts(0, 0)
	return r
}

// counts holds Asked and Refused against what was worked out by hand; asking for them is counted in neither.
func (r *rig) counts(asked, refused int) {
	r.t.Helper()
	for range 2 {
		if r.g.Asked() != asked || r.g.Refused() != refused {
			r.t.Fatalf("P1601: Asked() is %d, Refused() is %d, not %d, %d", r.g.Asked(), r.g.Refused(), asked, refused)
		}
	}
}

// tries holds Add against the plain one.
func (r *rig) tries(key, name string) api.Errno {
	r.t.Helper()
	want := r.p.add(key, name)
	if e := r.g.Add(key, name); e != want {
		r.t.Fatalf("P1601: Add(%.40q, %.40q): %v, not %v", key, name, e, want)
	}
	r.counts(r.p.asked, r.p.refused)
	return want
}

// asks holds Who against the plain one.
func (r *rig) asks(key string) (string, bool, api.Errno) {
	r.t.Helper()
	name, admin, e := r.p.who(key)
	n, a, is := r.g.Who(key)
	if n != name || a != admin || is != e {
		r.t.Fatalf("P1601: Who(%.40q): %q, %t, %v, not %q, %t, %v", key, n, a, is, name, admin, e)
	}
	r.counts(r.p.asked, r.p.refused)
	return name, admin, e
}

// adds: that is answered, said by hand.
func (r *rig) adds(key, name string, want api.Errno) {
	r.t.Helper()
	if e := r.tries(key, name); e != want {
		r.t.Fatalf("P1601: Add(%.40q, %.40q): %v, not %v", key, name, e, want)
	}
}

// isOf: the key is that tenant's.
func (r *rig) isOf(key, name string) {
	r.t.Helper()
	if n, admin, e := r.asks(key); n != name || admin || e != api.OK {
		r.t.Fatalf("P1601: Who(%.40q): %q, %t, %v, not %q", key, n, admin, e, name)
	}
}

func (r *rig) isAdmins(key string) {
	r.t.Helper()
	if n, admin, e := r.asks(key); n != "" || !admin || e != api.OK {
		r.t.Fatalf("P1601: Who(%.40q): %q, %t, %v; it is the admin's", key, n, admin, e)
	}
}

func (r *rig) isNobodys(key string) {
	r.t.Helper()
	if n, admin, e := r.asks(key); n != "" || admin || e != api.ErrAuth {
		r.t.Fatalf("P1601: Who(%.40q): %q, %t, %v; it is nobody's", key, n, admin, e)
	}
}

// isWhole: P1602: all keys that were ever added are whose they were, and the admin's too.
func (r *rig) isWhole() {
	r.t.Helper()
	for i, k := range r.p.keys {
		if n, admin, e := r.g.Who(k); n != r.p.names[i] || admin || e != api.OK {
			r.t.Fatalf("P1602: Who(%q): %q, %t, %v; it was made %q's", k, n, admin, e, r.p.names[i])
		}
		if e := r.g.Add(k, "else"); e != api.ErrIs {
			r.t.Fatalf("P1602: Add(%q, else): %v; it is %q's", k, e, r.p.names[i])
		}
	}
	if n, admin, e := r.g.Who(r.p.admin); n != "" || !admin || e != api.OK {
		r.t.Fatalf("P1602: Who(%.40q): %q, %t, %v; it is the admin's", r.p.admin, n, admin, e)
	}
	r.p.asked += len(r.p.keys) + 1
	r.counts(r.p.asked, r.p.refused)
}

// dice are bytes that a script of calls is made of; behind their end they are noughts.
type dice []byte

func (d *dice) roll(n int) int {
	if len(*d) == 0 {
		return 0
	}
	k := int((*d)[0])
	*d = (*d)[1:]
	return k % n
}

// thrown are so many dice, always the same of the same seed.
func thrown(n int, seed uint64) dice {
	d := make(dice, n)
	for i := range d {
		seed = seed*6364136223846793005 + 1442695040888963407
		d[i] = byte(seed >> 56)
	}
	return d
}

// text is mostly a short one, so that the same comes again; now and then it is no name.
func (d *dice) text() string {
	const signs = "aab01-aab01-AB\x00\xff _z"
	if d.roll(20) == 0 {
		return badNames[d.roll(len(badNames))]
	}
	b := make([]byte, 1+d.roll(3))
	for i := range b {
		b[i] = signs[d.roll(len(signs))]
	}
	return string(b)
}

// goesOn makes one call, as dice say.
func (r *rig) goesOn(d *dice) {
	r.t.Helper()
	switch d.roll(8) {
	case 0:
		r.asks(r.p.admin)
	case 1:
		r.tries(r.p.admin, d.text())
	case 2:
		if len(r.p.keys) > 0 {
			r.tries(r.p.keys[d.roll(len(r.p.keys))], d.text())
		}
	case 3, 4:
		r.asks(d.text())
	default:
		r.tries(d.text(), d.text())
	}
}
