package frame

import (
	"toll/api"
)

// The byte of an answer that says whether its statement is behind it.
const (
	without = iota
	with
)

func (w *writer) answer(a api.Answer) {
	w.octet(int(a.Err))
	w.nums(a.Left, a.Over, a.N)
	if a.Statement.Term == 0 {
		w.octet(without)
		return
	}
	w.octet(with)
	w.statement(a.Statement)
}

func (p *parser) answer() api.Answer {
	a := api.Answer{Err: api.Errno(p.octet()), Left: p.num(0), Over: p.num(0), N: p.num(0)}
	switch p.octet() {
	case without:
		return a
	case with:
		a.Statement = p.statement()
	}
	// No answer is written so: a statement of Term 0 is left out, and another byte has none.
	if a.Statement.Term == 0 {
		p.refuse(api.ErrBad)
	}
	return a
}
