package server

import (
	"slices"

	"toll/api"
	"toll/book"
	"toll/closing"
)

const mostTerms = 100 // that a request may ask to be closed

// run is a run of closings. All that another request, or a server behind a crash, needs to go on with it stands in the book's cursor.
type run struct {
	book  *book.Book
	time  int      // terms that are over then are closed, no later ones, so that it comes to an end
	now   int      // when they are closed
	names []string // the first is the tenant's that it looks at; none: it is at its end

	// What the term of that tenant comes to.
	next      api.Account
	statement api.Statement
}

func (s *Server) closeTerms(most int) (api.Answer, api.Errno) {
	if !within(most, 1, mostTerms) {
		return api.Answer{}, api.ErrArg
	}
	r, e := s.goOn()
	if e != api.OK {
		return api.Answer{}, e
	}
	closed := 0
	for closed < most && !r.isAtEnd() {
		e := r.closeNext()
		if e == api.ErrDead || e != api.OK && closed == 0 {
			return api.Answer{}, e
		}
		if e != api.OK { // what was closed is to be told
			return api.Answer{N: closed}, api.OK
		}
		closed++
	}
	if r.isAtEnd() {
		return api.Answer{N: closed, Left: 1}, api.OK
	}
	return api.Answer{N: closed}, api.OK
}

// goOn is the run that is on, where its cursor says, or else a new one.
func (s *Server) goOn() (*run, api.Errno) {
	c := s.book.Cursor()
	if !c.On {
		c = book.Cursor{Time: s.now}
	}
	names := s.book.Names()
	at, _ := slices.BinarySearch(names, c.Name)
	r := &run{book: s.book, time: c.Time, now: max(s.now, c.Time), names: names[at:]}
	r.look()
	if c.On && r.isAtEnd() { // no run leaves such a cursor; but with one of somebody else's no other run would ever begin
		return r, s.book.Move(book.Cursor{})
	}
	return r, api.OK
}

func (r *run) isAtEnd() bool { return len(r.names) == 0 }

// look goes to the first tenant whose term is to be closed.
func (r *run) look() {
	for !r.isAtEnd() {
		a, _ := r.book.Account(r.names[0])
		if r.isToClose(a) {
			return
		}
		r.names = r.names[1:]
	}
}

// isToClose works out what the term comes to, if it is over.
func (r *run) isToClose(a api.Account) bool {
	if !closing.Due(a, r.time) {
		return false
	}
	next, statement, e := closing.Close(a, r.now)
	r.next, r.statement = next, statement
	return e == api.OK
}

// closeNext closes a term of the tenant that it looks at. The cursor that is put with it tells where the run is then: so it looks on ahead of that. (Behind an error the run is not to be used any more.)
func (r *run) closeNext() api.Errno {
	a, statement := r.next, r.statement
	if !r.isToClose(a) {
		r.names = r.names[1:]
		r.look()
	}
	return r.book.Close(a, statement, r.cursor())
}

func (r *run) cursor() book.Cursor {
	if r.isAtEnd() {
		return book.Cursor{}
	}
	return book.Cursor{On: true, Time: r.time, Name: r.names[0]}
}
