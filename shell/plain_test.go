package shell_test

import (
	"maps"
	"regexp"
	"slices"

	"toll/account"
	"toll/api"
	"toll/book"
	"toll/closing"
	"toll/plan"
)

var aName = regexp.MustCompile(`\A[a-z0-9-]{1,24}\z`)

// What plans, statements and answers stand under.
type (
	planAt struct {
		name    string
		version int
	}
	termAt struct {
		name string
		term int
	}
	idAt struct {
		name string
		id   int
	}
)

// state is what lasts: what transactions have made.
type state struct {
	plans    map[planAt]api.Plan
	accounts map[string]api.Account
	told     map[termAt]api.Statement
	run      book.Cursor
	commits  int

	// No service keeps these: the theorems are held against them.
	first map[idAt]api.Answer // that were recorded
	used  map[string]int      // units that were committed
}

// does does something in one transaction.
func (s *state) does(do func(*state)) {
	s.commits++
	do(s)
}

// names are all tenants', rising.
func (s state) names() []string { return slices.Sorted(maps.Keys(s.accounts)) }

// last is the last version of a plan.
func (s state) last(name string) int {
	n := 0
	for at := range s.plans {
		if at.name == name {
			n = max(n, at.version)
		}
	}
	return n
}

// plansNamed is how many names of plans there are.
func (s state) plansNamed() int {
	names := map[string]int{}
	for at := range s.plans {
		names[at.name]++
	}
	return len(names)
}

// looksAt is the tenant that a run looks at, if there is one.
func (s state) looksAt(run book.Cursor, now int) (string, bool) {
	for _, name := range s.names() {
		if a := s.accounts[name]; name >= run.Name && run.Time/day >= a.To {
			if _, _, e := closing.Close(a, max(now, run.Time)); e == api.OK {
				return name, true
			}
		}
	}
	return "", false
}

// pail is how many requests of a tenant may pass, at a tick.
type pail struct{ has, at, burst, rate int }

func (b pail) reach(now int) pail {
	b.has = min(b.has+b.rate*(now-b.at), b.burst)
	b.at = now
	return b
}

// plain is the plain service, in memory, as chapters 13, 14 and 20 say it.
type plain struct {
	state
	admin string
	now   int
	pails map[string]pail

	passed map[string][]int // ticks, by tenants: requests that passed the throttle
	fault  string           // the first theorem that did not hold
}

func newPlain(admin string) *plain {
	s := state{plans: map[planAt]api.Plan{}, accounts: map[string]api.Account{}, told: map[termAt]api.Statement{}, first: map[idAt]api.Answer{}, used: map[string]int{}}
	return &plain{state: s, admin: admin, pails: map[string]pail{}, passed: map[string][]int{}}
}

// crash leaves what lasts; the throttle begins empty.
func (p *plain) crash() {
	p.pails = map[string]pail{}
	for name, a := range p.accounts {
		p.pails[name] = pail{at: p.now, burst: a.Plan.Burst, rate: a.Plan.Rate}
	}
}

// answered is an answer to what is done in one transaction.
func (p *plain) answered(x api.Answer, do func(*state)) api.Answer {
	p.does(do)
	return x
}

// whose tells whose a key is (the admin's: nobody's name), and whether it is anybody's.
func (p *plain) whose(key string) (string, bool) {
	if key == p.admin {
		return "", true
	}
	for _, name := range p.names() {
		if p.accounts[name].Key == key {
			return name, true
		}
	}
	return "", false
}

func no(e api.Errno) api.Answer { return api.Answer{Err: e} }

func (p *plain) do(q api.Request) api.Answer {
	name, is := p.whose(q.Key)
	switch {
	case !is:
		return no(api.ErrAuth)
	case name != "" && q.Kind >= 1 && q.Kind <= 5:
		return p.asks(name, q)
	case name != "":
		return no(api.ErrKind)
	}
	switch q.Kind {
	case api.KPlan:
		return p.plan(q.Plan)
	case api.KTenant:
		return p.tenant(q)
	case api.KChange:
		return p.change(q)
	case api.KClose:
		return p.closes(q.N)
	case api.KTerms:
		if s, is := p.told[termAt{q.Name, q.N}]; is {
			return api.Answer{Statement: s}
		}
		return no(api.ErrNone)
	}
	return no(api.ErrKind)
}

func (p *plain) asks(name string, q api.Request) api.Answer {
	b := p.pails[name].reach(p.now)
	if b.has == 0 {
		return no(api.ErrThrottle)
	}
	b.has--
	p.pails[name] = b
	p.passed[name] = append(p.passed[name], p.now)
	was := p.accounts[name]
	a, x, put := account.Do(was, q, p.now)
	p.holdsOnce(name, q, x, put)
	p.holdsQuota(was, q, x, put)
	if !put {
		return x
	}
	return p.answered(x, func(s *state) {
		s.accounts[name] = a
		s.first[idAt{name, q.Id}] = x
		if q.Kind == api.KCommit && x.Err == api.OK {
			s.used[name] += q.N
		}
	})
}

func (p *plain) plan(n api.Plan) api.Answer {
	last := p.last(n.Name)
	switch {
	case plan.Check(n) != api.OK:
		return no(api.ErrArg)
	case n.Version <= last:
		return no(api.ErrIs)
	case n.Version > last+1:
		return no(api.ErrArg)
	case last == 0 && p.plansNamed() == 32:
		return no(api.ErrMany)
	}
	return p.answered(api.Answer{N: n.Version}, func(s *state) { s.plans[planAt{n.Name, n.Version}] = n })
}

func (p *plain) tenant(q api.Request) api.Answer {
	of, planned := p.plans[planAt{q.Plan.Name, q.Plan.Version}]
	_, there := p.accounts[q.Name]
	_, known := p.whose(q.Secret)
	switch {
	case !aName.MatchString(q.Name) || !aName.MatchString(q.Secret):
		return no(api.ErrArg)
	case there || known:
		return no(api.ErrIs)
	case !planned:
		return no(api.ErrNone)
	case len(p.accounts) == 256:
		return no(api.ErrMany)
	}
	a, e := account.New(q.Name, q.Secret, of, p.now)
	if e != api.OK {
		return no(e)
	}
	p.pails[q.Name] = pail{at: p.now, burst: of.Burst, rate: of.Rate}
	return p.answered(api.Answer{N: 1}, func(s *state) { s.accounts[q.Name] = a })
}

func (p *plain) change(q api.Request) api.Answer {
	of, planned := p.plans[planAt{q.Plan.Name, q.Plan.Version}]
	a, there := p.accounts[q.Name]
	if !there || !planned {
		return no(api.ErrNone)
	}
	a, e := account.Change(a, of, p.now)
	if e != api.OK {
		return no(e)
	}
	b := p.pails[q.Name].reach(p.now)
	p.pails[q.Name] = pail{has: min(b.has, of.Burst), at: p.now, burst: of.Burst, rate: of.Rate}
	return p.answered(api.Answer{N: a.Lots[len(a.Lots)-1].Granted}, func(s *state) { s.accounts[q.Name] = a })
}

func (p *plain) closes(most int) api.Answer {
	if most < 1 || most > 100 {
		return no(api.ErrArg)
	}
	run := p.run
	if !run.On {
		run = book.Cursor{Time: p.now}
	}
	name, more := p.looksAt(run, p.now)
	closed := 0
	for ; more && closed < most; closed++ {
		a, told, _ := closing.Close(p.accounts[name], max(p.now, run.Time))
		run.Name = name
		p.does(func(s *state) {
			s.accounts[name], s.told[termAt{told.Name, told.Term}] = a, told
			name, more = s.looksAt(run, p.now)
			s.run = book.Cursor{}
			if more {
				s.run = book.Cursor{On: true, Time: run.Time, Name: name}
			}
		})
	}
	if more {
		return api.Answer{N: closed}
	}
	return api.Answer{N: closed, Left: 1}
}
