package server

import (
	"toll/account"
	"toll/api"
	"toll/plan"
)

func (s *Server) addPlan(p api.Plan) (api.Answer, api.Errno) {
	if e := s.book.AddPlan(p); e != api.OK {
		return api.Answer{}, e
	}
	return api.Answer{N: p.Version}, api.OK
}

func (s *Server) addTenant(r api.Request) (api.Answer, api.Errno) {
	if e := s.checkNew(r.Name, r.Secret); e != api.OK {
		return api.Answer{}, e
	}
	p, is := s.book.Plan(r.Plan.Name, r.Plan.Version)
	if !is {
		return api.Answer{}, api.ErrNone
	}
	if len(s.buckets) >= api.MaxTenants {
		return api.Answer{}, api.ErrMany
	}
	a, e := account.New(r.Name, r.Secret, p, s.now)
	if e != api.OK {
		return api.Answer{}, e
	}
	if e := s.book.Put(a); e != api.OK {
		return api.Answer{}, e
	}
	s.admit(a)
	return api.Answer{N: 1}, api.OK
}

// checkNew allows a tenant's name and key that nobody has.
func (s *Server) checkNew(name, key string) api.Errno {
	if !plan.Name(name) || !plan.Name(key) {
		return api.ErrArg
	}
	if _, is := s.buckets[name]; is {
		return api.ErrIs
	}
	if _, _, e := s.gate.Who(key); e != api.ErrAuth {
		return api.ErrIs
	}
	return api.OK
}

func (s *Server) changePlan(r api.Request) (api.Answer, api.Errno) {
	a, is := s.book.Account(r.Name)
	if !is {
		return api.Answer{}, api.ErrNone
	}
	p, is := s.book.Plan(r.Plan.Name, r.Plan.Version)
	if !is {
		return api.Answer{}, api.ErrNone
	}
	a, e := account.Change(a, p, s.now)
	if e != api.OK {
		return api.Answer{}, e
	}
	if e := s.book.Put(a); e != api.OK {
		return api.Answer{}, e
	}
	s.buckets[a.Name].Set(p.Burst, p.Rate, s.now)
	return api.Answer{N: a.Lots[len(a.Lots)-1].Granted}, api.OK
}

func (s *Server) tellTerm(name string, term int) (api.Answer, api.Errno) {
	told, is := s.book.Statement(name, term)
	if !is {
		return api.Answer{}, api.ErrNone
	}
	return api.Answer{Statement: told}, api.OK
}
