package throttle_test

import (
	"testing"

	"toll/api"
	"toll/throttle"
)

// TestP1501Example: the chapter's.
func TestP1501Example(t *testing.T) {
	b := throttle.New(5, 2, 0)
	if n := b.Has(1); n != 2 {
		t.Errorf("P1501: Has(1): %d", n)
	}
	if n := b.Has(9); n != 5 {
		t.Errorf("P1501: Has(9): %d", n)
	}
}

// TestP1501New: it has none, at its own tick and at lesser ones.
func TestP1501New(t *testing.T) {
	for _, burst := range []int{1, 2, 7, api.MaxBurst} {
		for _, rate := range []int{0, 1, 9, api.MaxRate} {
			for _, now := range []int{0, 1, 100, api.LastTick - 1, api.LastTick} {
				for _, asked := range []int{now, now / 2, 0} {
					made(t, burst, rate, now).has(asked, 0)
					made(t, burst, rate, now).stops(asked)
				}
			}
		}
	}
}

// TestP1501Rate: rate more from tick to tick, from its own tick on.
func TestP1501Rate(t *testing.T) {
	for _, from := range []int{0, 1, 1000, api.LastTick - 50} {
		r := made(t, 1000, 3, from)
		for i := range 50 {
			r.has(from+i, 3*i)
		}
		made(t, 1000, 3, from).has(from+1, 3)
		made(t, 1000, 3, from).has(from+2, 6)
		made(t, 1000, 3, from).has(from+50, 150)
		made(t, 1000, 3, from).lets(from+1, 3)
		made(t, 1000, 3, from).lets(from+49, 147)
	}
	made(t, api.MaxBurst, api.MaxRate, 0).has(1, api.MaxRate)
	made(t, api.MaxBurst, api.MaxRate, 0).has(99, 99*api.MaxRate)
	made(t, api.MaxBurst, api.MaxRate, 0).has(100, api.MaxBurst)
}

// TestP1501Burst: burst at most, whether the rate meets it or goes beyond it.
func TestP1501Burst(t *testing.T) {
	r := made(t, 6, 2, 0)
	r.has(2, 4)
	r.has(3, 6)
	r.has(4, 6)
	r = made(t, 7, 2, 0)
	r.has(3, 6)
	r.has(4, 7)
	r.has(5, 7)
	r = made(t, 1, api.MaxRate, 0)
	r.has(0, 0)
	r.has(1, 1)
	r.lets(2, 1)
	r.lets(3, 1)
	r = made(t, 1, 1, 0)
	r.lets(9, 1)
	r.lets(10, 1)
	r = made(t, api.MaxBurst, 1, 0)
	r.has(api.MaxBurst-1, api.MaxBurst-1)
	r.has(api.MaxBurst, api.MaxBurst)
	r.has(api.MaxBurst+1, api.MaxBurst)
	made(t, api.MaxBurst, api.MaxRate, 0).lets(101, api.MaxBurst)
}

// TestP1501Waits: one that is full and waits on has no more for it; what was taken comes again at the rate.
func TestP1501Waits(t *testing.T) {
	r := made(t, 5, 2, 10)
	for _, now := range []int{13, 14, 100, 1000000, api.LastTick - 10} {
		r.has(now, 5)
	}
	r.passes(api.LastTick-10, 5)
	r.stops(api.LastTick - 10)
	r.has(api.LastTick-9, 2)
	r.has(api.LastTick-8, 4)
	r.has(api.LastTick-7, 5)
}

// TestP1501Far: from 0 to LastTick at once; no sum wraps, and none is cut.
func TestP1501Far(t *testing.T) {
	for _, burst := range []int{1, 2, 1000, api.MaxBurst} {
		for _, rate := range []int{1, 2, 999, api.MaxRate} {
			made(t, burst, rate, 0).has(api.LastTick, burst)
			made(t, burst, rate, 0).passes(api.LastTick, min(burst, 40))
			r := made(t, burst, rate, 0)
			r.set(burst, 0, api.LastTick)
			r.has(api.LastTick, burst)
			// ticks and rates whose product is a power of 2, where numbers of fewer bits begin anew
			for _, bits := range []int{16, 31, 32} {
				made(t, burst, rate, 0).has(min(1<<bits, api.LastTick), min(burst, rate<<bits))
				made(t, burst, rate, 0).has(min(1<<bits, api.LastTick)/rate, min(burst, rate*(min(1<<bits, api.LastTick)/rate)))
			}
		}
	}
	made(t, api.MaxBurst, 0, 0).has(api.LastTick, 0)
}

// TestP1501Pass: none; the last one; several at one tick; each takes one, and a false takes none.
func TestP1501Pass(t *testing.T) {
	r := made(t, 10, 1, 0)
	r.stops(0)
	r.has(1, 1)
	r.lets(1, 1)
	r.has(1, 0)
	r.has(4, 3)
	r.passes(4, 1)
	r.has(4, 2)
	r.passes(4, 1)
	r.has(4, 1)
	r.passes(5, 1)
	r.has(5, 1)
	r.lets(5, 1)
	for range 20 {
		r.stops(5)
	}
	r.has(6, 1)
	r.lets(99, 10)
}

// TestP1501Full: what is taken of a full one ahead of a tick leaves room for what the tick brings.
func TestP1501Full(t *testing.T) {
	r := made(t, 4, 3, 0)
	r.has(50, 4)
	r.passes(50, 1)
	r.has(51, 4)
	r.passes(51, 4)
	r.has(52, 3)
	r.passes(52, 2)
	r.has(53, 4)
}

// TestP1501Back: a now that is less than the greatest one so far counts as that, whichever call gave the greatest one.
func TestP1501Back(t *testing.T) {
	greatest := map[string]func(r *rig){
		"Has":          func(r *rig) { r.asks(10) },
		"Pass, true":   func(r *rig) { r.set(9, 1, 4); r.tries(10); r.set(9, 2, 0) },
		"Pass, false":  func(r *rig) { r.lets(5, 9); r.lets(6, 2); r.set(9, 0, 6); r.stops(10); r.set(9, 2, 6) },
		"Set":          func(r *rig) { r.set(9, 2, 10) },
		"Set, between": func(r *rig) { r.set(9, 2, 7); r.set(9, 2, 10); r.set(9, 2, 8) },
	}
	for name, call := range greatest {
		for _, less := range []int{0, 3, 9, 10} {
			t.Run(name, func(t *testing.T) {
				r := made(t, 9, 2, 0)
				call(r)
				left := r.asks(less)
				if again := r.asks(10); again != left {
					t.Fatalf("P1501: it has %d at %d, %d at 10", left, less, again)
				}
				r.lets(less, left)
				r.has(less, 0)
				r.has(10, 0)
				r.stops(10)
				r.has(11, 2)
				r.set(9, 1, less)
				r.has(11, 2)
				r.has(12, 3)
			})
		}
	}
}

// TestP1501BackAhead: New's own tick is one of those so far.
func TestP1501BackAhead(t *testing.T) {
	r := made(t, 9, 2, 100)
	r.has(0, 0)
	r.has(99, 0)
	r.stops(50)
	r.set(8, 3, 20)
	r.has(100, 0)
	r.has(101, 3)
}

// TestP1501Has: it takes nothing, and nothing is lost or won by it, at any tick up to the next call's.
func TestP1501Has(t *testing.T) {
	for _, rate := range []int{0, 1, 2, 3, 7, 100} {
		for _, burst := range []int{1, 2, 5, 20} {
			for last := range 15 {
				asked, silent := throttle.New(burst, rate, 0), throttle.New(burst, rate, 0)
				asked.Set(burst, rate, 1)
				silent.Set(burst, rate, 1)
				for now := range last + 1 {
					for range 3 {
						asked.Has(now)
					}
				}
				asked.Has(0)
				isAlike(t, asked, silent, last)
			}
		}
	}
}

// isAlike: of two buckets the same passes, at now and behind it.
func isAlike(t *testing.T, a, b *throttle.Bucket, now int) {
	t.Helper()
	for i := range 30 {
		x, y := a.Pass(now+i/5), b.Pass(now+i/5)
		if x != y {
			t.Fatalf("P1501: of two buckets of which one was asked, the passes at %d are %t, %t", now+i/5, x, y)
		}
	}
	if x, y := a.Has(now+6), b.Has(now+6); x != y {
		t.Fatalf("P1501: of two buckets of which one was asked, one has %d, the other %d", x, y)
	}
}

// TestP1501SetLater: at a later tick what has come till then came by the elder rate and burst.
func TestP1501SetLater(t *testing.T) {
	r := made(t, 10, 3, 0)
	r.set(20, 1, 3) // a greater burst
	r.has(3, 9)
	r.has(4, 10)
	r.has(14, 20)
	r.has(15, 20)

	r = made(t, 10, 3, 0)
	r.set(20, 1, 50) // the elder burst was met ahead of it
	r.has(50, 10)
	r.has(51, 11)

	r = made(t, 10, 3, 0)
	r.set(4, 2, 3) // a lesser burst cuts off
	r.has(3, 4)
	r.has(4, 4)
	r.passes(4, 3)
	r.has(5, 3)
	r.has(6, 4)

	r = made(t, 10, 3, 0)
	r.set(4, 2, 1) // a lesser burst that is not met yet
	r.has(1, 3)
	r.has(2, 4)

	r = made(t, 10, 3, 0)
	r.set(10, 3, 2) // the same
	r.has(2, 6)
	r.has(3, 9)
	r.has(4, 10)
}

// TestP1501SetNow: at the same tick; what is there stays, the new burst at most, and no tick comes by it.
func TestP1501SetNow(t *testing.T) {
	r := made(t, 10, 3, 0)
	r.set(20, 5, 0)
	r.has(0, 0)
	r.has(1, 5)
	r.set(20, 1, 1)
	r.has(1, 5)
	r.set(20, 2, 1)
	r.has(1, 5)
	r.has(2, 7)
	r.set(6, 2, 2)
	r.has(2, 6)
	r.set(20, 2, 2) // what was cut off does not come again
	r.has(2, 6)
	r.has(3, 8)
	r.set(20, 2, 3)
	r.set(20, 2, 3)
	r.has(3, 8)
	r.set(1, api.MaxRate, 3)
	r.lets(3, 1)
	r.lets(4, 1)
	r.set(api.MaxBurst, api.MaxRate, 4)
	r.has(4, 0)
	r.has(5, api.MaxRate)
}

// TestP1501SetBack: at a lesser tick, which counts as the greatest one so far.
func TestP1501SetBack(t *testing.T) {
	for _, less := range []int{0, 1, 4, 5} {
		r := made(t, 10, 1, 0)
		r.has(5, 5)
		r.set(20, 4, less)
		r.has(5, 5)
		r.has(6, 9)

		r = made(t, 10, 1, 0)
		r.has(5, 5)
		r.set(3, 4, less)
		r.has(5, 3)
		r.has(6, 3)

		r = made(t, 10, 1, 0)
		r.has(5, 5)
		r.set(10, 1, less)
		r.has(less, 5)
		r.has(6, 6)

		r = made(t, 10, 1, 5)
		r.set(10, 7, less)
		r.has(5, 0)
		r.has(6, 7)
	}
}

// TestP1501SetOne: the burst alone, the rate alone.
func TestP1501SetOne(t *testing.T) {
	r := made(t, 5, 2, 0)
	r.set(50, 2, 10)
	r.has(10, 5)
	r.has(20, 25)
	r.set(50, 1, 20)
	r.has(30, 35)
	r.set(40, 1, 31)
	r.has(31, 36)
	r.has(40, 40)
}

// TestP1501SetRow: each one holds from its tick to the next one's.
func TestP1501SetRow(t *testing.T) {
	r := made(t, 1000, 1, 0)
	want := 0
	for i := range 20 {
		want += 1 + 7*i%5
		r.set(1000, 1+7*(i+1)%5, i+1)
	}
	r.has(20, want)
}

// TestP1501Nought: a rate of 0: nothing ever comes; what is there may pass.
func TestP1501Nought(t *testing.T) {
	r := made(t, 7, 0, 0)
	r.has(1, 0)
	r.stops(99)
	r.has(api.LastTick, 0)
	r.stops(api.LastTick)

	r = made(t, 7, 2, 0)
	r.set(7, 0, 3)
	r.has(3, 6)
	r.has(4, 6)
	r.passes(4, 2)
	r.has(1000000, 4)
	r.lets(api.LastTick-5, 4)
	r.has(api.LastTick-4, 0)
	r.set(7, 2, api.LastTick-3)
	r.has(api.LastTick-3, 0)
	r.has(api.LastTick-2, 2)
}

// TestP1501Two: buckets side by side do not see one another (P7).
func TestP1501Two(t *testing.T) {
	a, b := made(t, 5, 2, 0), made(t, 5, 2, 0)
	c := made(t, 90, 7, 3)
	a.lets(2, 4)
	b.has(1, 2)
	b.has(2, 4)
	c.has(4, 7)
	b.set(1, 0, 2)
	a.has(3, 2)
	a.has(9, 5)
	b.has(9, 1)
	c.passes(5, 3)
	a.has(9, 5)
	b.lets(9, 1)
	a.lets(9, 5)
	c.has(5, 11)
	c.has(9, 39)
}
