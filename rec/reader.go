package rec

import (
	"toll/api"
)

// reader hands out bytes from their front, up to the first fault.
type reader struct {
	rest  []byte
	fault api.Errno
}

// take answers noughts in place of bytes that are not there, so that nobody has to ask at each field.
func (r *reader) take(many int) []byte {
	if len(r.rest) < many {
		r.refuse(api.ErrCut)
	}
	if r.fault != api.OK {
		return make([]byte, many)
	}
	front := r.rest[:many]
	r.rest = r.rest[many:]
	return front
}

// refuse keeps the first fault: what is read behind it says nothing.
func (r *reader) refuse(e api.Errno) {
	if r.fault == api.OK {
		r.fault = e
	}
}

// end tells the fault that there was, all being read.
func (r *reader) end() api.Errno {
	if len(r.rest) > 0 {
		r.refuse(api.ErrMore)
	}
	return r.fault
}

// parser is a carrier from bytes.
type parser struct{ reader }

func (p *parser) errno(e *api.Errno) { *e = api.Errno(p.take(1)[0]) }

func (p *parser) num(n *int) {
	var bits uint64
	for _, b := range p.take(8) {
		bits = bits<<8 | uint64(b)
	}
	*n = int(bits)
}

func (p *parser) text(t *string) { *t = string(p.take(p.count(0))) }

func (p *parser) flag(bool) bool {
	is := p.take(1)[0]
	if is > 1 {
		p.refuse(api.ErrBad)
	}
	return is == 1
}

func (p *parser) count(int) int { return int(p.take(1)[0]) }
