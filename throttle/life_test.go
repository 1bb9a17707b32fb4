package throttle_test

import (
	"testing"

	"toll/api"
	"toll/throttle"
)

// dice are bytes that a script of calls is made of; behind their end they are noughts.
type dice []byte

func (d *dice) roll(n int) int {
	if len(*d) == 0 {
		return 0
	}
	k := int((*d)[0])
	*d = (*d)[1:]
	return k % n
}

// pick is one of several things.
func pick[T any](d *dice, from ...T) T {
	return from[d.roll(len(from))]
}

// thrown are so many dice, always the same of the same seed.
func thrown(n int, seed uint64) dice {
	d := make(dice, n)
	for i := range d {
		seed = seed*6364136223846793005 + 1442695040888963407
		d[i] = byte(seed >> 56)
	}
	return d
}

func (d *dice) burst() int { return pick(d, 1, 1, 2, 3, 5, 8, 20, 100, api.MaxBurst) }

func (d *dice) rate() int { return pick(d, 0, 1, 1, 2, 3, 7, 30, api.MaxRate) }

// life is a bucket that is called as dice say, and what passed of it.
type life struct {
	*rig
	now  int
	tall []tally
}

// tally is what a tick came to: what the tick brings at most, how many passed at it, how many it may have behind it.
type tally struct {
	now, brings, passed, holds int
}

func lived(t *testing.T, d *dice) *life {
	now := pick(d, 0, 0, 1, 1000, api.LastTick-100)
	l := &life{rig: made(t, d.burst(), d.rate(), now), now: now}
	l.tall = []tally{{now: now, holds: l.p.burst}}
	return l
}

// goesTo adds ticks that nothing was called at too, so that any two can be looked at.
func (l *life) goesTo(now int) {
	for l.now < now {
		l.now++
		l.tall = append(l.tall, tally{now: l.now, brings: l.p.rate, holds: l.p.burst})
	}
}

func (l *life) last() *tally { return &l.tall[len(l.tall)-1] }

// goesOn makes one call, at a tick that may be less than the last one's.
func (l *life) goesOn(d *dice) {
	now := min(max(0, l.now+pick(d, 0, 0, 0, 1, 1, 2, 3, 9, -1, -5)), api.LastTick)
	l.goesTo(now)
	switch d.roll(12) {
	case 0:
		l.asks(now)
	case 1:
		l.set(d.burst(), d.rate(), now)
		l.last().holds = l.p.burst
	case 2:
		l.rig = made(l.t, l.p.burst, l.p.rate, l.now) // as behind a crash
	default:
		for range 1 + d.roll(9) {
			if l.tries(now) {
				l.last().passed++
			}
		}
	}
}

// isBounded: P1502 of any two ticks; where Set was called, by the burst that there was behind the earlier one, and by the rate that each tick came with.
func (l *life) isBounded() {
	l.t.Helper()
	for i, from := range l.tall {
		passed, bound := 0, from.holds
		for _, to := range l.tall[i+1:] {
			passed += to.passed
			bound += to.brings
			if passed > bound {
				l.t.Fatalf("P1502: behind %d, up to %d, %d passed, not %d at most", from.now, to.now, passed, bound)
			}
		}
	}
}

// TestP1502Lives: scripts of calls, held against the plain reading and against P1502.
func TestP1502Lives(t *testing.T) {
	for seed := range 400 {
		d := thrown(1200, uint64(seed))
		l := lived(t, &d)
		for len(d) > 0 {
			l.goesOn(&d)
		}
		l.isBounded()
	}
}

// TestP1502Greedy: whoever takes all that there is at each tick has the burst and, from then on, the rate for each tick; no less and no more.
func TestP1502Greedy(t *testing.T) {
	for _, burst := range []int{1, 3, 10, 100} {
		for _, rate := range []int{0, 1, 2, 10, 1000} {
			b := throttle.New(burst, rate, 0)
			passed := 0
			for now := 200; now < 240; now++ {
				for range burst + rate + 1 {
					if b.Pass(now) {
						passed++
					}
				}
				want := min(burst, 200*rate) + (now-200)*min(rate, burst)
				if passed != want {
					t.Fatalf("P1502: of New(%d, %d, 0) from 200 to %d %d passed, not %d", burst, rate, now, passed, want)
				}
			}
		}
	}
}

// TestP1502Back: ticks that go back and forth bring nothing twice.
func TestP1502Back(t *testing.T) {
	b := throttle.New(50, 2, 0)
	passed := 0
	for range 10 {
		for now := range 11 {
			for b.Pass(now) {
				passed++
			}
			b.Has(10 - now)
			b.Set(50, 2, now)
		}
	}
	if passed != 20 {
		t.Errorf("P1502: from 0 to 10 %d passed, not 20", passed)
	}
}

// TestP1502Crashes: one that is made anew, at each tick or several times at one, gives no more than one alone does.
func TestP1502Crashes(t *testing.T) {
	for every := 1; every < 8; every++ {
		b := throttle.New(4, 2, 0)
		passed := 0
		for now := range 60 {
			for b.Pass(now) {
				passed++
			}
			if now%every == 0 {
				for range 5 {
					b = throttle.New(4, 2, now)
					if b.Pass(now) || b.Has(now) != 0 {
						t.Fatalf("P1502: one that is new lets pass at %d", now)
					}
				}
			}
			if passed > 4+2*now {
				t.Fatalf("P1502: from 0 to %d %d passed", now, passed)
			}
		}
	}
}
