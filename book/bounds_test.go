package book_test

import (
	"fmt"
	"math/rand/v2"
	"testing"

	"toll/api"
	"toll/book"
)

// TestP1702Few: the bounds on a small disk, with few of all (each call of the rig is held to them).
func TestP1702Few(t *testing.T) {
	for _, blocks := range []int{140, 256, 4096, 4097, 16384} {
		r := newRig(t, blocks)
		for i := range 30 {
			r.put(great("a", i))
			r.put(small("a", i))
			r.put(mixed("a", i))
			r.move(book.Cursor{Time: i})
		}
		r.shows()
		r.open()
	}
}

// longest is a name of 24 bytes, so that keys are as long as may be.
func longest(i int) string { return fmt.Sprintf("%s%03d", longName[:21], i) }

// ofAnyLength is a name of 1 to 24 bytes.
func ofAnyLength(i int) string {
	s := fmt.Sprint(i) + longName
	return s[:max(len(fmt.Sprint(i)), 1+i%24)]
}

// TestP1702Many: the bounds with very many accounts, plans and statements, of each size, that grow and shrink in all orders.
func TestP1702Many(t *testing.T) {
	for i, x := range []struct {
		name    func(int) string
		tenants int
		seed    uint64
	}{{longest, api.MaxTenants, 1}, {ofAnyLength, api.MaxTenants, 2}, {longest, 9, 3}, {ofAnyLength, 40, 4}} {
		r := newRig(t, api.MaxPages)
		d := rand.New(rand.NewPCG(x.seed, 3))
		for step := range 2500 {
			name := x.name(d.IntN(x.tenants))
			if step < x.tenants {
				name = x.name(step * 97 % x.tenants)
			}
			a := great(name, step)
			if d.IntN(2) == 0 {
				a = mixed(name, step)
			}
			switch d.IntN(5) {
			case 0, 1:
				r.put(a)
			case 2, 3:
				r.close(a, stated(name, 1+step), book.Cursor{On: true, Time: step, Name: name})
			case 4:
				of := x.name(d.IntN(32))
				p := great(name, step).Plan
				p.Name, p.Version = of, 1+len(r.p.plans[of])
				r.addPlan(p)
			}
		}
		if len(r.p.accounts) < x.tenants*9/10 || len(r.p.statements) < 900 || len(r.p.plans) < 9 {
			t.Errorf("P1702: too few of something: %d tenants, %d statements, %d plans", len(r.p.accounts), len(r.p.statements), len(r.p.plans))
		}
		r.shows()
		r.open()
		t.Logf("%d: %d writes at most, %d of %d pages left", i, r.most, r.b.Left(), r.d.Blocks())
	}
}

// TestP1702Greatest: as many tenants as may be, all with as much as may be, each put over and over.
func TestP1702Greatest(t *testing.T) {
	r := newRig(t, api.MaxPages)
	for round := range 3 {
		for i := range api.MaxTenants {
			name := longest(i * (2*round + 1) % api.MaxTenants)
			if e := r.close(great(name, i+1000*round), stated(name, 1+round), book.Cursor{On: true, Time: round, Name: name}); e != api.OK {
				t.Fatalf("P1702: round %d, tenant %d, with %d pages left: %v", round, i, r.b.Left(), e)
			}
		}
	}
	r.shows()
	r.open()
	t.Logf("%d writes at most, %d of %d pages left", r.most, r.b.Left(), r.d.Blocks())
}

// TestP1702Statements: the statements of many terms, from the first on and in other orders, take no more than their pages.
func TestP1702Statements(t *testing.T) {
	const terms = 1500
	for _, stride := range []int{1, terms - 1, 611} {
		r := newRig(t, 8192)
		for i := range terms {
			r.close(small("a", i&7), stated(longName, 1+i*stride%terms), book.Cursor{Time: i})
		}
		r.shows()
		r.open()
	}
}

// TestP1702Edges: an account grows and shrinks piece by piece between two others that do so too, so that what stands beside it is laid out in many ways.
func TestP1702Edges(t *testing.T) {
	r := newRig(t, 4096)
	names := []string{longest(1), longest(2), longest(3)}
	d := rand.New(rand.NewPCG(5, 5))
	holds := [3]int{12, 12, 12}
	for step := range 1500 {
		k := d.IntN(3)
		holds[k] = min(12, max(0, holds[k]+d.IntN(3)-1))
		if d.IntN(40) == 0 {
			holds[k] = 12 * d.IntN(2)
		}
		r.put(sized(names[k], 14, holds[k], 14, d.IntN(13), step))
		if d.IntN(9) == 0 {
			r.put(great(names[k], step))
		}
	}
	r.shows()
	r.open()
	t.Logf("%d writes at most", r.most)
}
