package shell

import (
	"strings"

	"toll/api"
	"toll/civil"
	"toll/disk"
	"toll/server"
	"toll/term"
)

func (p *play) plan(a args) string {
	n := a.numbers
	x := api.Plan{Name: a.texts[0], Version: n[0], Allowance: n[1], Kind: n[2], Cap: n[4], Mode: n[5], Burst: n[6], Rate: n[7]}
	if x.Kind == api.TDays {
		x.Days = n[3]
	} else {
		x.Anchor = n[3]
	}
	return p.tells(api.Request{Kind: api.KPlan, Key: admin, Plan: x})
}

func (p *play) tenant(a args) string {
	of := api.Plan{Name: a.texts[2], Version: a.numbers[0]}
	return p.tells(api.Request{Kind: api.KTenant, Key: admin, Name: a.texts[0], Secret: a.texts[1], Plan: of})
}

func (p *play) change(a args) string {
	to := api.Plan{Name: a.texts[1], Version: a.numbers[0]}
	return p.tells(api.Request{Kind: api.KChange, Key: admin, Name: a.texts[0], Plan: to})
}

func (p *play) closeTerms(a args) string {
	x := p.ask(api.Request{Kind: api.KClose, Key: admin, N: a.numbers[0]})
	return answered(x.Err, x.N, x.Left)
}

func (p *play) terms(a args) string {
	x := p.ask(api.Request{Kind: api.KTerms, Key: admin, Name: a.texts[0], N: a.numbers[0]})
	s := x.Statement
	return answered(x.Err, s.From, s.To, s.Granted, s.Consumed, s.Expired, s.Rolled, s.Over)
}

func (p *play) hold(a args) string { return p.tells(ofTenant(api.KHold, a)) }

func (p *play) commit(a args) string { return p.tells(ofTenant(api.KCommit, a)) }

func (p *play) release(a args) string { return p.tells(ofTenant(api.KRelease, a)) }

func (p *play) pack(a args) string { return p.tells(ofTenant(api.KPack, a)) }

func (p *play) show(a args) string { return p.tells(ofTenant(api.KShow, a)) }

// ofTenant is a request that a tenant makes by a key.
func ofTenant(kind int, a args) api.Request {
	r, n := api.Request{Kind: kind, Key: a.texts[0]}, a.numbers
	switch kind {
	case api.KHold, api.KPack:
		r.Id, r.N, r.TTL = n[0], n[1], n[2]
	case api.KCommit: // it says what a release says, and how many of the units
		r.N = n[2]
		fallthrough
	case api.KRelease:
		r.Id, r.Of = n[0], n[1]
	}
	return r
}

// tells asks the server, and tells what most requests are answered.
func (p *play) tells(r api.Request) string {
	x := p.ask(r)
	return answered(x.Err, x.Left, x.Over, x.N)
}

// ask asks the server. A script's power goes between its lines alone, so there always is an answer.
func (p *play) ask(r api.Request) api.Answer {
	x, e := p.server.Do(r)
	if e != api.OK {
		return api.Answer{Err: e}
	}
	return x
}

// answered tells an error, or, where there is none, these numbers.
func answered(e api.Errno, numbers ...int) string {
	if e != api.OK {
		return e.Error()
	}
	return ok(numbers...)
}

func (p *play) tick(a args) string {
	e := p.server.Tick(p.server.Now() + a.numbers[0])
	return answered(e, p.server.Now())
}

func (p *play) lots(a args) string {
	x, is := p.server.Account(a.texts[0])
	if !is {
		return api.ErrNone.Error()
	}
	words := []string{ok()}
	for _, l := range x.Lots {
		words = append(words, lotWord(l))
	}
	return strings.Join(words, " ")
}

func lotWord(l api.Lot) string {
	return strings.Join(written([]int{l.Id, l.Kind, l.From, l.Until, l.Granted, l.Consumed, l.Held, l.Expired, l.Rolled}), ":")
}

func (p *play) term(a args) string {
	x, is := p.server.Account(a.texts[0])
	if !is {
		return api.ErrNone.Error()
	}
	return ok(x.Term, x.From, x.To, x.Over, len(x.Holds))
}

// crash opens a server anew on what lasts, and at the same time.
func (p *play) crash(args) string {
	cutOff(p.disk)
	p.disk.Start()
	s, e := server.Open(p.disk, admin, p.server.Now())
	if e != api.OK {
		return e.Error()
	}
	p.server = s
	return ok()
}

// cutOff lets the power go at a write that is tried for it, and so not done.
func cutOff(d *disk.Disk) {
	d.Cut(0)
	d.Write(0, make([]byte, api.Block))
}

func (p *play) date(a args) string {
	d, e := civil.Of(a.numbers[0])
	return answered(e, d.Year, d.Month, d.Day)
}

func (p *play) next(a args) string {
	n := a.numbers
	day, e := term.Next(n[0], n[1], n[2], n[3])
	return answered(e, day)
}
