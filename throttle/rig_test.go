package throttle_test

import (
	"testing"

	"toll/throttle"
)

// plain is the plain reading of the chapter: it goes from tick to tick.
type plain struct {
	has, burst, rate, now int
}

// reach ends where no tick can bring anything any more, so that LastTick is not too far.
func (p *plain) reach(now int) {
	for p.now < now && p.rate > 0 && p.has < p.burst {
		p.now++
		p.has = min(p.has+p.rate, p.burst)
	}
	p.now = max(p.now, now)
}

func (p *plain) pass(now int) bool {
	p.reach(now)
	if p.has == 0 {
		return false
	}
	p.has--
	return true
}

func (p *plain) set(burst, rate, now int) {
	p.reach(now)
	p.has, p.burst, p.rate = min(p.has, burst), burst, rate
}

// rig is a bucket and the plain one, side by side.
type rig struct {
	t *testing.T
	b *throttle.Bucket
	p plain
}

func made(t *testing.T, burst, rate, now int) *rig {
	return &rig{t: t, b: throttle.New(burst, rate, now), p: plain{burst: burst, rate: rate, now: now}}
}

// asks holds Has and Pass against the plain ones, and answers what they told.
func (r *rig) asks(now int) int {
	r.t.Helper()
	r.p.reach(now)
	got := r.b.Has(now)
	if got != r.p.has {
		r.t.Fatalf("P1501: Has(%d): %d, not %d of %+v", now, got, r.p.has, r.p)
	}
	return got
}

func (r *rig) tries(now int) bool {
	r.t.Helper()
	want := r.p.pass(now)
	got := r.b.Pass(now)
	if got != want {
		r.t.Fatalf("P1501: Pass(%d): %t; then it has %+v", now, got, r.p)
	}
	return got
}

// has holds Has against what was worked out by hand.
func (r *rig) has(now, want int) {
	r.t.Helper()
	if got := r.asks(now); got != want {
		r.t.Fatalf("P1501: Has(%d): %d, not %d", now, got, want)
	}
}

// lets: so many pass, and no more.
func (r *rig) lets(now, want int) {
	r.t.Helper()
	for i := range want {
		if !r.tries(now) {
			r.t.Fatalf("P1501: at %d only %d passed, not %d", now, i, want)
		}
	}
	r.stops(now)
}

// passes: so many pass, if not more.
func (r *rig) passes(now, n int) {
	r.t.Helper()
	for i := range n {
		if !r.tries(now) {
			r.t.Fatalf("P1501: at %d only %d passed, not %d", now, i, n)
		}
	}
}

// stops: none passes, however often it is tried.
func (r *rig) stops(now int) {
	r.t.Helper()
	for range 3 {
		if r.tries(now) {
			r.t.Fatalf("P1501: at %d one too many passed", now)
		}
	}
}

func (r *rig) set(burst, rate, now int) {
	r.b.Set(burst, rate, now)
	r.p.set(burst, rate, now)
}
