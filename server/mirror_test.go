package server_test

import (
	"maps"
	"slices"

	"toll/account"
	"toll/api"
	"toll/book"
	"toll/closing"
	"toll/plan"
)

// termOf is what a statement stands under.
type termOf struct {
	name string
	term int
}

// bucket is a plain one.
type bucket struct{ has, at, burst, rate int }

func (b bucket) reach(now int) bucket {
	for b.at < now && b.has < b.burst && b.rate > 0 { // tick by tick, as the chapter says it
		b.at++
		b.has = min(b.has+b.rate, b.burst)
	}
	b.at = max(b.at, now)
	return b
}

// mirror is what a server must be: the plain service, in memory.
type mirror struct {
	admin      string
	now        int
	plans      map[string][]api.Plan
	accounts   map[string]api.Account
	statements map[termOf]api.Statement
	cursor     book.Cursor
	buckets    map[string]bucket
	commits    int
}

func newMirror(admin string, now int) *mirror {
	return &mirror{admin: admin, now: now, plans: map[string][]api.Plan{}, accounts: map[string]api.Account{}, statements: map[termOf]api.Statement{}, buckets: map[string]bucket{}}
}

func (m *mirror) clone() *mirror {
	c := *m
	c.plans, c.accounts, c.statements, c.buckets = maps.Clone(m.plans), maps.Clone(m.accounts), maps.Clone(m.statements), maps.Clone(m.buckets)
	return &c
}

// names are all tenants', rising.
func (m *mirror) names() []string { return slices.Sorted(maps.Keys(m.accounts)) }

// opened is the mirror of a server that is opened on what there is.
func (m *mirror) opened(admin string, now int) *mirror {
	c := m.clone()
	c.admin, c.now = admin, now
	for name, a := range m.accounts {
		c.buckets[name] = bucket{at: now, burst: a.Plan.Burst, rate: a.Plan.Rate}
	}
	return c
}

// who tells whose a key is; the second: whether anybody's.
func (m *mirror) who(key string) (string, bool) {
	if key == m.admin {
		return "", true
	}
	for _, name := range m.names() {
		if m.accounts[name].Key == key {
			return name, true
		}
	}
	return "", false
}

func (m *mirror) plan(r api.Request) (api.Plan, bool) {
	l := m.plans[r.Plan.Name]
	if r.Plan.Version < 1 || r.Plan.Version > len(l) {
		return api.Plan{}, false
	}
	return l[r.Plan.Version-1], true
}

// deed is what a request comes to: the answer, what there is behind it, and what there is behind each transaction on the way.
type deed struct {
	answer api.Answer
	behind *mirror
	fronts []*mirror
}

// room tells whether there are pages enough for a transaction, behind so many that were done.
type room func(done int) bool

func no(e api.Errno) api.Answer { return api.Answer{Err: e} }

// refuses is a request that changes nothing.
func (m *mirror) refuses(e api.Errno) deed { return deed{answer: no(e), behind: m} }

// puts is a request that does something in one transaction, if there is room for it.
func (m *mirror) puts(x api.Answer, is room, do func(c *mirror)) deed {
	if !is(0) {
		return m.refuses(api.ErrDiskFull)
	}
	c := m.clone()
	c.commits++
	do(c)
	return deed{answer: x, behind: c, fronts: []*mirror{c}}
}

// does tells what a request comes to.
func (m *mirror) does(r api.Request, is room) deed {
	name, known := m.who(r.Key)
	tenants := r.Kind >= 1 && r.Kind <= 5
	admins := r.Kind >= 16 && r.Kind <= 20
	switch {
	case !known:
		return m.refuses(api.ErrAuth)
	case r.Key == m.admin && !admins, r.Key != m.admin && !tenants:
		return m.refuses(api.ErrKind)
	case r.Key != m.admin:
		return m.asks(name, r, is)
	}
	switch r.Kind {
	case api.KPlan:
		return m.addPlan(r, is)
	case api.KTenant:
		return m.addTenant(r, is)
	case api.KChange:
		return m.changePlan(r, is)
	case api.KClose:
		return m.closeTerms(r.N, is)
	}
	if s, is := m.statements[termOf{r.Name, r.N}]; is {
		return deed{answer: api.Answer{Statement: s}, behind: m}
	}
	return m.refuses(api.ErrNone)
}

// asks is a tenant's request.
func (m *mirror) asks(name string, r api.Request, is room) deed {
	c := m.clone()
	b := c.buckets[name].reach(c.now)
	if b.has < 1 {
		return m.refuses(api.ErrThrottle)
	}
	b.has--
	c.buckets[name] = b
	a, x, put := account.Do(c.accounts[name], r, c.now)
	if !put {
		return deed{answer: x, behind: c}
	}
	return c.puts(x, is, func(c *mirror) { c.accounts[name] = a })
}

func (m *mirror) addPlan(r api.Request, is room) deed {
	p := r.Plan
	l := m.plans[p.Name]
	switch {
	case plan.Check(p) != api.OK:
		return m.refuses(api.ErrArg)
	case p.Version <= len(l):
		return m.refuses(api.ErrIs)
	case p.Version > len(l)+1:
		return m.refuses(api.ErrArg)
	case len(l) == 0 && len(m.plans) == 32:
		return m.refuses(api.ErrMany)
	}
	return m.puts(api.Answer{N: p.Version}, is, func(c *mirror) { c.plans[p.Name] = append(slices.Clip(l), p) })
}

func (m *mirror) addTenant(r api.Request, is room) deed {
	_, there := m.accounts[r.Name]
	_, known := m.who(r.Secret)
	p, planned := m.plan(r)
	switch {
	case !aName.MatchString(r.Name) || !aName.MatchString(r.Secret):
		return m.refuses(api.ErrArg)
	case there || known:
		return m.refuses(api.ErrIs)
	case !planned:
		return m.refuses(api.ErrNone)
	case len(m.accounts) == 256:
		return m.refuses(api.ErrMany)
	}
	a, e := account.New(r.Name, r.Secret, p, m.now)
	if e != api.OK {
		return m.refuses(e)
	}
	return m.puts(api.Answer{N: 1}, is, func(c *mirror) {
		c.accounts[r.Name] = a
		c.buckets[r.Name] = bucket{at: c.now, burst: p.Burst, rate: p.Rate}
	})
}

func (m *mirror) changePlan(r api.Request, is room) deed {
	a, there := m.accounts[r.Name]
	p, planned := m.plan(r)
	if !there || !planned {
		return m.refuses(api.ErrNone)
	}
	b, e := account.Change(a, p, m.now)
	if e != api.OK {
		return m.refuses(e)
	}
	return m.puts(api.Answer{N: b.Lots[len(b.Lots)-1].Granted}, is, func(c *mirror) {
		c.accounts[r.Name] = b
		x := c.buckets[r.Name].reach(c.now)
		c.buckets[r.Name] = bucket{has: min(x.has, p.Burst), at: x.at, burst: p.Burst, rate: p.Rate}
	})
}

// looksAt is the tenant that a run looks at, if there is one.
func (m *mirror) looksAt(time int, from string) (string, bool) {
	for _, name := range m.names() {
		if a := m.accounts[name]; name >= from && time/day >= a.To {
			if _, _, e := closing.Close(a, max(time, m.now)); e == api.OK {
				return name, true
			}
		}
	}
	return "", false
}

func (m *mirror) closeTerms(n int, is room) deed {
	if n < 1 || n > 100 {
		return m.refuses(api.ErrArg)
	}
	time, from := m.now, ""
	if m.cursor.On {
		time, from = m.cursor.Time, m.cursor.Name
	}
	out := deed{behind: m}
	name, more := m.looksAt(time, from)
	for len(out.fronts) < n && more {
		if !is(len(out.fronts)) {
			if len(out.fronts) == 0 {
				return m.refuses(api.ErrDiskFull)
			}
			break
		}
		c := out.behind.clone()
		a, s, _ := closing.Close(c.accounts[name], max(time, m.now))
		c.accounts[name], c.statements[termOf{s.Name, s.Term}] = a, s
		c.commits++
		name, more = c.looksAt(time, name)
		c.cursor = book.Cursor{}
		if more {
			c.cursor = book.Cursor{On: true, Time: time, Name: name}
		}
		out.behind, out.fronts = c, append(out.fronts, c)
	}
	out.answer = api.Answer{N: len(out.fronts)}
	if !more {
		out.answer.Left = 1
	}
	return out
}
