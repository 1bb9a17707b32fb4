package frame

import (
	"toll/api"
	"toll/rec"
)

// reader hands out bytes from their front, up to the first fault.
type reader struct {
	verdict
	rest []byte
}

// take answers noughts in place of bytes that are not there, so that nobody has to ask at each field.
func (r *reader) take(many int) []byte {
	if len(r.rest) < many {
		r.refuse(api.ErrCut)
	}
	if r.fault != api.OK {
		return make([]byte, many)
	}
	front := r.rest[:many]
	r.rest = r.rest[many:]
	return front
}

func (r *reader) octet() int { return int(r.take(1)[0]) }

// record takes one of rec's that begins with a text, on which alone its length hangs; bare is one whose text is empty.
func (r *reader) record(bare []byte) []byte {
	many := len(bare)
	if len(r.rest) > 0 {
		many += int(r.rest[0])
	}
	return r.take(many)
}

// end tells the fault that there was, all being read.
func (r *reader) end() api.Errno {
	if len(r.rest) > 0 {
		r.refuse(api.ErrMore)
	}
	return r.fault
}

// parser is a carrier from bytes: what a field was does not count.
type parser struct{ reader }

func (p *parser) kind(int) int { return p.octet() }

func (p *parser) num(int) int {
	var bits uint64
	for _, b := range p.take(8) {
		bits = bits<<8 | uint64(b)
	}
	return int(bits)
}

func (p *parser) text(string) string { return string(p.take(p.octet())) }

func (p *parser) plan(api.Plan) api.Plan {
	// Its bytes are as many as there must be: where they are cut off, the reader has refused them.
	plan, _ := rec.ParsePlan(p.record(rec.EncodePlan(api.Plan{})))
	return plan
}

func (p *parser) statement() api.Statement {
	s, _ := rec.ParseStatement(p.record(rec.EncodeStatement(api.Statement{})))
	return s
}
