package server

import (
	"toll/account"
	"toll/api"
	"toll/book"
)

func (s *Server) Do(r api.Request) (api.Answer, api.Errno) {
	if s.isDead() {
		return api.Answer{}, api.ErrDead
	}
	x, e := s.answer(r)
	if e == api.ErrDead { // whether it was done only the next opening tells
		return api.Answer{}, e
	}
	if e != api.OK {
		x = api.Answer{Err: e}
	}
	s.count(x.Err)
	return x, api.OK
}

// isDead asks the book for what it never does: it refuses that, but by another error where the power went.
func (s *Server) isDead() bool {
	return s.book.Move(book.Cursor{Time: -1}) == api.ErrDead
}

func (s *Server) count(e api.Errno) {
	switch e {
	default:
		s.refused.Add(1)
		fallthrough
	case api.OK:
		s.answered.Add(1)
	}
}

// answer tells the answer, or by which error the request is refused, or that the power went.
func (s *Server) answer(r api.Request) (api.Answer, api.Errno) {
	name, admin, e := s.gate.Who(r.Key)
	switch {
	case e != api.OK:
		return api.Answer{}, e
	case admin:
		return s.doOfAdmin(r)
	case within(r.Kind, api.KHold, api.KShow):
		return s.doOfTenant(name, r)
	}
	return api.Answer{}, api.ErrKind
}

func (s *Server) doOfTenant(name string, r api.Request) (api.Answer, api.Errno) {
	if !s.buckets[name].Pass(s.now) {
		return api.Answer{}, api.ErrThrottle
	}
	a, _ := s.book.Account(name)
	a, x, put := account.Do(a, r, s.now)
	if !put {
		return x, api.OK
	}
	if e := s.book.Put(a); e != api.OK {
		return api.Answer{}, e
	}
	return x, api.OK
}

func (s *Server) doOfAdmin(r api.Request) (api.Answer, api.Errno) {
	switch r.Kind {
	case api.KPlan:
		return s.addPlan(r.Plan)
	case api.KTenant:
		return s.addTenant(r)
	case api.KChange:
		return s.changePlan(r)
	case api.KClose:
		return s.closeTerms(r.N)
	case api.KTerms:
		return s.tellTerm(r.Name, r.N)
	}
	return api.Answer{}, api.ErrKind
}
