package rec

import (
	"toll/api"
)

// carrier carries fields between a record and its bytes: a parser from the bytes, a writer to them.
type carrier interface {
	errno(e *api.Errno)
	num(n *int)
	text(t *string)
	flag(is bool) bool  // what the bytes say, once it is carried
	count(many int) int // likewise
	refuse(e api.Errno) // the record, or its bytes, may not be
}

// records knows which fields a record has, and their order, for both ways at once: so what was written is read as the same.
type records struct{ carrier }

func encode[T any](record *T, carry func(records, *T)) []byte {
	w := &writer{}
	carry(records{w}, record)
	return w.bytes()
}

func parse[T any](b []byte, carry func(records, *T)) (T, api.Errno) {
	var record, none T
	p := &parser{reader{rest: b}}
	carry(records{p}, &record)
	if e := p.end(); e != api.OK {
		return none, e
	}
	return record, api.OK
}

func (r records) nums(fields ...*int) {
	for _, n := range fields {
		r.num(n)
	}
}

// list carries how many there are, and each of them.
func list[T any](r records, l *[]T, carry func(records, *T)) {
	for i := range r.count(len(*l)) {
		if i == len(*l) {
			var none T
			*l = append(*l, none)
		}
		carry(r, &(*l)[i])
	}
}

func (r records) plan(p *api.Plan) {
	r.text(&p.Name)
	r.nums(&p.Version, &p.Allowance, &p.Kind, &p.Anchor, &p.Days, &p.Cap, &p.Mode, &p.Burst, &p.Rate)
}

func (r records) account(a *api.Account) {
	r.text(&a.Name)
	r.text(&a.Key)
	r.plan(&a.Plan)
	r.nums(&a.Term, &a.From, &a.To)
	list(r, &a.Lots, records.lot)
	r.nums(&a.Next, &a.Over)
	list(r, &a.Holds, records.hold)
	list(r, &a.Window, records.entry)
}

func (r records) lot(l *api.Lot) {
	r.nums(&l.Id, &l.Kind, &l.From, &l.Until, &l.Granted, &l.Consumed, &l.Held, &l.Expired, &l.Rolled)
}

func (r records) hold(h *api.Hold) {
	r.num(&h.Id)
	list(r, &h.Parts, records.part)
	r.nums(&h.Over, &h.Until)
}

func (r records) part(p *api.Part) { r.nums(&p.Lot, &p.N) }

func (r records) entry(e *api.Entry) { r.from(entry, e, &e.Answer.Statement) }

func (r records) statement(s *api.Statement) { r.from(statement, nil, s) }

// Each of these records ends in the one behind it.
const (
	entry = iota
	answer
	statement
)

// from carries the record of that kind, and those in which it ends.
func (r records) from(kind int, e *api.Entry, s *api.Statement) {
	switch kind {
	case entry:
		r.num(&e.Id)
		fallthrough
	case answer:
		r.errno(&e.Answer.Err)
		r.nums(&e.Answer.Left, &e.Answer.Over, &e.Answer.N)
		if !r.flag(s.Term != 0) {
			return
		}
		fallthrough
	case statement:
		r.text(&s.Name)
		r.nums(&s.Term, &s.From, &s.To, &s.Granted, &s.Consumed, &s.Expired, &s.Rolled, &s.Over)
	}
	if kind != statement && s.Term == 0 {
		r.refuse(api.ErrBad)
	}
}
