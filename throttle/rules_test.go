package throttle_test

import (
	"math"
	"slices"
	"testing"

	"toll/api"
	"toll/throttle"
)

// TestP1Wild: numbers that may not be (P8): every call ends, and none panics.
func TestP1Wild(t *testing.T) {
	wild := []int{math.MinInt, math.MinInt + 1, -1 << 40, -1, 0, 1, api.MaxRate + 1, api.MaxBurst + 1, api.LastTick, api.LastTick + 1, 1 << 62, math.MaxInt}
	for _, burst := range wild {
		for _, rate := range wild {
			for _, now := range wild {
				b := throttle.New(burst, rate, now)
				for _, then := range wild {
					b.Pass(then)
					b.Has(then)
					b.Set(then, burst, now)
					b.Set(rate, then, burst)
					b.Pass(now)
				}
			}
		}
	}
}

// TestP1Beside: what one bucket was handed that may not be does nothing to another one.
func TestP1Beside(t *testing.T) {
	r := made(t, 5, 2, 0)
	b := throttle.New(math.MaxInt, math.MaxInt, math.MinInt)
	b.Pass(math.MaxInt)
	b.Set(math.MinInt, math.MinInt, math.MaxInt)
	r.has(1, 2)
	r.has(9, 5)
	r.lets(9, 5)
}

// told are all answers of a script of calls.
func told(d dice) []int {
	var out []int
	b := throttle.New(d.burst(), d.rate(), d.roll(20))
	for now := 0; len(d) > 0; now += d.roll(4) {
		at := max(0, now-d.roll(6))
		switch d.roll(6) {
		case 0:
			b.Set(d.burst(), d.rate(), at)
		case 1:
			out = append(out, b.Has(at))
		default:
			n := 0
			if b.Pass(at) {
				n = 1
			}
			out = append(out, n)
		}
	}
	return out
}

// TestP3Again: the same calls in the same order answer the same.
func TestP3Again(t *testing.T) {
	for seed := range 50 {
		first := told(thrown(300, uint64(seed)))
		told(thrown(300, uint64(seed+1000)))
		if again := told(thrown(300, uint64(seed))); !slices.Equal(first, again) {
			t.Fatalf("P3: of seed %d: %v, then %v", seed, first, again)
		}
	}
}

// FuzzCalls makes calls as its bytes say, and holds all that is answered against the plain reading and against P1502.
func FuzzCalls(f *testing.F) {
	f.Add([]byte{0, 4, 3, 3, 5, 8, 5, 5, 3, 1, 2, 2, 5, 0, 9, 0, 9, 5, 8})
	f.Add([]byte{4, 8, 7, 7, 5, 8, 7, 2, 7, 0, 9, 5, 8, 4, 1, 0, 0, 4, 5, 8})
	f.Add([]byte(thrown(200, 7)))
	f.Fuzz(func(t *testing.T, b []byte) {
		d := dice(b[:min(len(b), 600)])
		l := lived(t, &d)
		for len(d) > 0 {
			l.goesOn(&d)
		}
		l.isBounded()
	})
}
