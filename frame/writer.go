package frame

import (
	"math"

	"toll/api"
	"toll/rec"
)

// writer is a carrier to bytes. It goes on behind a fault, so that nobody has to ask at each field.
type writer struct {
	verdict
	out []byte
}

// end answers no bytes beside a fault: cut short they would say something else.
func (w *writer) end() ([]byte, api.Errno) {
	if w.fault != api.OK {
		return nil, w.fault
	}
	return w.out, api.OK
}

// fits refuses what no byte says.
func (w *writer) fits(many int) bool {
	if many < 0 || many > math.MaxUint8 {
		w.refuse(api.ErrLong)
		return false
	}
	return true
}

func (w *writer) octet(many int) {
	if w.fits(many) {
		w.out = append(w.out, byte(many))
	}
}

// kind leaves it to fieldsOf which kinds there are, so that one that no byte says is refused as any other.
func (w *writer) kind(k int) int {
	w.out = append(w.out, byte(k))
	return k
}

func (w *writer) num(n int) int {
	for shift := 56; shift >= 0; shift -= 8 {
		w.out = append(w.out, byte(n>>shift))
	}
	return n
}

func (w *writer) nums(all ...int) {
	for _, n := range all {
		w.num(n)
	}
}

func (w *writer) text(t string) string {
	if w.fits(len(t)) {
		w.octet(len(t))
		w.out = append(w.out, t...)
	}
	return t
}

func (w *writer) plan(p api.Plan) api.Plan {
	if w.fits(len(p.Name)) {
		w.out = append(w.out, rec.EncodePlan(p)...)
	}
	return p
}

func (w *writer) statement(s api.Statement) {
	if w.fits(len(s.Name)) {
		w.out = append(w.out, rec.EncodeStatement(s)...)
	}
}
