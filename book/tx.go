package book

import (
	"toll/api"
	"toll/plan"
	"toll/rec"
	"toll/txn"
)

// tx is a transaction that knows the records.
type tx struct {
	*txn.Tx
	puts  int64     // records
	fault api.Errno // the first one of what it did
}

func (t *tx) account(name string) (api.Account, bool) {
	if !plan.Name(name) {
		return api.Account{}, false
	}
	var b []byte
	lo, hi := span(ofAccounts, name)
	for _, kv := range t.Scan(lo, hi, 0) {
		b = append(b, kv.Value...)
	}
	a, e := rec.ParseAccount(b) // of no bytes there is none
	return a, e == api.OK
}

func (t *tx) plan(name string, version int) (api.Plan, bool) {
	if !plan.Name(name) || !within(version, 1, mostVersion) {
		return api.Plan{}, false
	}
	value, _ := t.Get(planKey(name, version))
	p, e := rec.ParsePlan([]byte(value))
	return p, e == api.OK
}

// last goes to the first key of the name, which has the last version.
func (t *tx) last(name string) int {
	if !plan.Name(name) {
		return 0
	}
	lo, hi := span(ofPlans, name)
	for _, kv := range t.Scan(lo, hi, 1) {
		p, _ := rec.ParsePlan([]byte(kv.Value))
		return p.Version
	}
	return 0
}

func (t *tx) plans() int { return len(t.names(ofPlans)) }

func (t *tx) statement(name string, term int) (api.Statement, bool) {
	if !plan.Name(name) || !within(term, 1, mostTerm) {
		return api.Statement{}, false
	}
	value, _ := t.Get(statementKey(name, term))
	s, e := rec.ParseStatement([]byte(value))
	return s, e == api.OK
}

func (t *tx) cursor() Cursor {
	value, _ := t.Get(ofCursor)
	return parseCursor(value)
}

// names goes from name to name, past all other keys of each.
func (t *tx) names(of string) []string {
	var names []string
	lo := of
	for {
		first := t.Scan(lo, of+behindNames, 1)
		if len(first) == 0 {
			return names
		}
		name := nameIn(first[0].Key)
		names = append(names, name)
		_, lo = span(of, name)
	}
}

// putAccount lays an account's bytes into pieces, and takes away those that a longer one has left.
func (t *tx) putAccount(a api.Account) {
	t.puts++
	b := rec.EncodeAccount(a)
	piece := 0
	for len(b) > 0 {
		front := min(len(b), api.MaxValue)
		t.put(pieceKey(a.Name, piece), string(b[:front]))
		b = b[front:]
		piece++
	}
	for t.del(pieceKey(a.Name, piece)) {
		piece++
	}
}

func (t *tx) putPlan(p api.Plan) {
	t.puts++
	t.put(planKey(p.Name, p.Version), string(rec.EncodePlan(p)))
}

func (t *tx) putStatement(s api.Statement) {
	t.puts++
	t.put(statementKey(s.Name, s.Term), string(rec.EncodeStatement(s)))
}

func (t *tx) putCursor(c Cursor) {
	t.puts++
	t.put(ofCursor, encodeCursor(c))
}

func (t *tx) put(key, value string) { t.note(t.Put(key, value)) }

// del tells whether there was such a key; that there was none is no fault.
func (t *tx) del(key string) bool {
	e := t.Del(key)
	if e != api.ErrNone {
		t.note(e)
	}
	return e == api.OK
}

func (t *tx) note(e api.Errno) {
	if t.fault == api.OK {
		t.fault = e
	}
}

// commit is refused where a put was: the rest must not be done without it.
func (t *tx) commit() api.Errno {
	if t.fault != api.OK {
		return t.fault
	}
	return t.Commit()
}
