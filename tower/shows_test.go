package tower_test

import (
	"slices"
	"testing"

	"toll/api"
	"toll/rec"
	"toll/server"
)

// isServers holds what the tower shows against a server on the same blocks.
func (r *rig) isServers() {
	r.t.Helper()
	s, e := server.Open(copyOf(r.t, r.d), r.p.admin, r.p.now)
	if e != api.OK {
		r.t.Fatalf("P2001: Open: %v", e)
	}
	if !slices.Equal(r.x.Names(), s.Names()) || r.x.Left() != s.Left() || r.x.Commits() != s.Commits() {
		r.t.Errorf("P2103: %q, %d, %d, but the server's are %q, %d, %d", r.x.Names(), r.x.Left(), r.x.Commits(), s.Names(), s.Left(), s.Commits())
	}
	for _, name := range append(s.Names(), "", "x", "root", "ka", "A", longName) {
		a, is := r.x.Account(name)
		b, there := s.Account(name)
		if is != there || !rec.SameAccount(a, b) {
			r.t.Errorf("P2103: Account(%q): %+v, %t, but the server's is %+v, %t", name, a, is, b, there)
		}
	}
}

// TestP2103Server: Account, Names, Left and Commits are the server's, behind each request.
func TestP2103Server(t *testing.T) {
	r := newRig(t, 900, 3)
	r.isServers()
	conn := r.connect()
	r.isServers()
	for _, q := range []api.Request{adds(byDays("p", 1, 2, 100)), tenant("b", "p", 1), tenant("a", "p", 1), shows("a"), tenant("a", "p", 1)} {
		r.asks(conn, q)
		r.isServers()
	}
	r.ticks(4)
	for _, q := range []api.Request{hold("a", 1, 30), commit("a", 2, 1, 20), pack("b", 1, 5, 99), hold("b", 2, 200), shows("b"), shows("x")} {
		r.asks(conn, q)
		r.isServers()
	}
	if a, is := r.x.Account("a"); !is || a.Key != "ka" || a.Lots[0].Consumed != 20 || len(a.Window) != 2 {
		t.Errorf("P2103: %+v, %t", a, is)
	}
	if !slices.Equal(r.x.Names(), []string{"a", "b"}) || r.x.Commits() != 7 {
		t.Errorf("P2103: %q, %d", r.x.Names(), r.x.Commits())
	}
	r.ticks(9 * day)
	r.asks(conn, closes(3))
	r.isServers()
	r.asks(conn, closes(100))
	r.isServers()
	r.opens()
	r.isServers()
}

// TestP2103None: of nobody, and of what is no name, there is no account, and beside that nothing.
func TestP2103None(t *testing.T) {
	r := cast(t, 600)
	for _, name := range append(badNames, "x", "root", "ka", "p", "aa", "a-", longName) {
		if a, is := r.x.Account(name); is || !rec.SameAccount(a, api.Account{}) {
			t.Errorf("P2103: Account(%q): %+v, %t", name, a, is)
		}
	}
}
