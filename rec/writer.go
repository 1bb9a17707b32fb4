package rec

import (
	"math"

	"toll/api"
)

// writer is a carrier to bytes. It changes nothing of what it is pointed to.
type writer struct {
	out   []byte
	fault api.Errno
}

// bytes answers none of a record that has no bytes: cut short they would say something else.
func (w *writer) bytes() []byte {
	if w.fault != api.OK {
		return nil
	}
	return w.out
}

func (w *writer) refuse(e api.Errno) { w.fault = e }

func (w *writer) errno(e *api.Errno) { w.count(int(*e)) }

func (w *writer) num(n *int) {
	for shift := 56; shift >= 0; shift -= 8 {
		w.out = append(w.out, byte(*n>>shift))
	}
}

func (w *writer) text(t *string) {
	many := w.count(len(*t))
	w.out = append(w.out, (*t)[:many]...)
}

func (w *writer) flag(is bool) bool {
	many := 0
	if is {
		many = 1
	}
	return w.count(many) == 1
}

// count answers none of too many, so that little is written of what is refused.
func (w *writer) count(many int) int {
	if many < 0 || many > math.MaxUint8 {
		w.refuse(api.ErrArg)
		return 0
	}
	w.out = append(w.out, byte(many))
	return many
}
