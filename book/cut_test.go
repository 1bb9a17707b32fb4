package book_test

import (
	"fmt"
	"testing"

	"toll/api"
	"toll/book"
)

// base is a book with something of everything.
func base(t testing.TB, blocks int) *rig {
	t.Helper()
	r := newRig(t, blocks)
	for i := range 6 {
		name := fmt.Sprint("t", i)
		r.put(mixed(name, i))
		r.addPlan(version("p", 1+i))
		r.close(great(name, 10+i), stated(name, 1), book.Cursor{On: true, Time: i, Name: name})
	}
	r.put(small("little", 3))
	return r
}

// calls are those of which each write is cut off: of the same kind some that make little and some that make much.
func calls() map[string]func(r *rig) api.Errno {
	c := book.Cursor{On: true, Time: 77, Name: "t3"}
	return map[string]func(r *rig) api.Errno{
		"Put, new":             func(r *rig) api.Errno { return r.put(small("new", 1)) },
		"Put, new and great":   func(r *rig) api.Errno { return r.put(great("new", 1)) },
		"Put, other":           func(r *rig) api.Errno { return r.put(great("t2", 99)) },
		"Put, less":            func(r *rig) api.Errno { return r.put(small("t2", 99)) },
		"Put, more":            func(r *rig) api.Errno { return r.put(great("little", 99)) },
		"Put, same":            func(r *rig) api.Errno { return r.put(r.p.accounts["t2"]) },
		"AddPlan, new":         func(r *rig) api.Errno { return r.addPlan(version("q", 1)) },
		"AddPlan, next":        func(r *rig) api.Errno { return r.addPlan(version("p", 7)) },
		"Close":                func(r *rig) api.Errno { return r.close(great("t2", 99), stated("t2", 2), c) },
		"Close, less":          func(r *rig) api.Errno { return r.close(small("t2", 99), stated("t2", 2), c) },
		"Close, new":           func(r *rig) api.Errno { return r.close(great("new", 99), stated("new", 1), c) },
		"Close, at the end":    func(r *rig) api.Errno { return r.close(great("t5", 99), stated("t5", 2), book.Cursor{}) },
		"Close, other's terms": func(r *rig) api.Errno { return r.close(small("t2", 9), stated("t3", 2), c) },
		"Move":                 func(r *rig) api.Errno { return r.move(c) },
		"Move to nothing":      func(r *rig) api.Errno { return r.move(book.Cursor{}) },
	}
}

// TestP1703Cuts lets the power go at each write of each call, and of the opening behind it: the book is what it was, or what it was to be, whole; then the call is made again, and all is as if it had never been cut off.
func TestP1703Cuts(t *testing.T) {
	for _, blocks := range []int{512, 4097} {
		first := base(t, blocks)
		for what, call := range calls() {
			cuts := 0
			for ; ; cuts++ {
				r := first.copy()
				r.d.Cut(cuts)
				e := call(r)
				if e == api.OK {
					r.start()
					break
				}
				if e != api.ErrDead {
					t.Fatalf("P1702: %s, cut off behind %d writes: %v", what, cuts, e)
				}
				goesOn(t, r, what, call)
			}
			if cuts < 2 {
				t.Errorf("P1703: %s has %d writes", what, cuts)
			}
		}
	}
}

// goesOn starts a disk whose power went within a call, and makes the call again if it was not done.
func goesOn(t *testing.T, r *rig, what string, call func(r *rig) api.Errno) {
	t.Helper()
	was := r.p.commits
	r.showsDead()
	r.d.Start()
	r.showsDead()
	r.start()
	if r.p.commits == was {
		if e := call(r); e != api.OK {
			t.Fatalf("P1703: %s, made again: %v", what, e)
		}
	}
	if r.p.commits != was+1 {
		t.Fatalf("P1703: %s: %d transactions, not %d", what, r.p.commits, was+1)
	}
	r.shows()
	r.put(great("behind", 5))
	r.open()
}

// run is a run of transactions, cut off where the power goes.
func run(r *rig, seed int) {
	for i := range 5 {
		n := seed*31 + i*7
		name := goodNames[n%6]
		r.put(mixed(name, n))
		r.addPlan(version(name, 1+len(r.p.plans[name])))
		r.close(mixed(name, n+1), stated(name, 1+n), book.Cursor{On: n%2 == 0, Time: n, Name: name})
		r.put(api.Account{})
		r.move(book.Cursor{Time: n + 1})
		r.close(mixed(name, n+2), stated(name, 1+n), book.Cursor{})
	}
}

// TestP1703Runs lets the power go at each write of a run: all that was answered OK is there, and nothing else but what was cut off.
func TestP1703Runs(t *testing.T) {
	for cut := 0; ; cut++ {
		r := newRig(t, 1024)
		run(r, 1)
		r.d.Cut(cut)
		run(r, 2)
		if !r.d.Dead() {
			break
		}
		r.showsDead()
		r.start()
		if cut%7 == 0 {
			run(r, 3)
			r.open()
		}
	}
}

// TestP1703Again cuts off run after run on one disk.
func TestP1703Again(t *testing.T) {
	r := newRig(t, 2048)
	for round := range 80 {
		r.d.Cut(round * 37 % 211)
		run(r, round)
		if r.d.Dead() {
			r.showsDead()
		}
		r.start()
	}
}

// TestT6Once: a term whose closing was cut off is closed once in all: made again it is answered ErrIs just if it was done, and what is there then is the same.
func TestT6Once(t *testing.T) {
	closes := func(r *rig) api.Errno {
		return r.close(great("t2", 99), stated("t2", 2), book.Cursor{On: true, Time: 7, Name: "t3"})
	}
	first := base(t, 512)
	whole := first.copy()
	closes(whole)
	for cut := 0; ; cut++ {
		r := first.copy()
		r.d.Cut(cut)
		done := closes(r) == api.OK
		r.start()
		if !done {
			_, is := r.b.Statement("t2", 2)
			if e := closes(r); (e == api.ErrIs) != is || e != api.OK && e != api.ErrIs {
				t.Fatalf("T6: closed again, there %t: %v", is, e)
			}
		}
		if d := whole.p.differs(r.b); d != "" {
			t.Fatalf("T6: cut off behind %d writes: %s", cut, d)
		}
		if done {
			break
		}
	}
}
