package shell_test

import (
	"fmt"
	"slices"
	"strings"
	"testing"

	"toll/api"
	"toll/shell"
)

// life is a script that is drawn line by line, as the dice say; the plain service beside it tells what is there, so that most lines may be.
type life struct {
	*plain
	dice        *dice
	burst, rate int // of all plans, so that T7 can be asked for them
	modes       []int
	lines       []string
	asked       []string       // by tenants
	lasts       map[string]int // the greatest number of each tenant's requests
}

// drawn is a script of so many lines at most.
func drawn(d *dice, many int, modes ...int) *life {
	l := &life{plain: newPlain("root"), dice: d, modes: modes, lasts: map[string]int{}}
	l.burst, l.rate = pick(d, 6, 1, 40, 900), pick(d, 2, 1, 7, 100)
	for _, line := range []string{l.planLine("p", 1), l.planLine("q", 1), "tenant a ka p 1", "tenant b kb q 1", fmt.Sprintf("tick %d", 1+d.roll(200)*day/3)} {
		l.adds(line)
	}
	for len(*d) > 0 && len(l.lines) < many {
		l.adds(l.disguise(l.line()))
	}
	return l
}

func (l *life) adds(line string) {
	l.lines = append(l.lines, line)
	l.answer(line)
}

func (l *life) script() string { return scriptOf(l.lines) }

func scriptOf(lines []string) string {
	s := ""
	for _, l := range lines {
		s += l + "\n"
	}
	return s
}

// planLine is a plan of any sort.
func (l *life) planLine(name string, version int) string {
	d := l.dice
	kind, of := 1, 1+d.roll(4)
	if d.roll(4) == 0 {
		kind, of = 0, 1+d.roll(31)
	}
	return fmt.Sprintf("plan %s %d %d %d %d %d %d %d %d", name, version, pick(d, 100, 0, 7, 31, 1000), kind, of, pick(d, 0, 5, 40, 1000), pick(d, l.modes...), l.burst, l.rate)
}

// line is what is asked for next.
func (l *life) line() string {
	d := l.dice
	switch d.roll(24) {
	case 0, 1, 2, 3:
		return fmt.Sprintf("tick %d", pick(d, 0, 1, 1, 1, 2, 5, 60, 500, day, 3*day, 9*day, -1, -l.now, last-l.now+1))
	case 4:
		return "crash"
	case 5, 6, 7, 8:
		return l.ofAdmin()
	case 9, 10:
		return pick(d, "lots ", "term ") + pick(d, "a", "b", "c", "d", "e", "ka", "root")
	case 11:
		return l.ofDays()
	case 12:
		return l.noLine()
	case 13, 14:
		if len(l.asked) > 0 {
			return l.asked[max(0, len(l.asked)-1-d.roll(20))]
		}
	}
	return l.ofTenant()
}

// ofTenant is a tenant's next request: mostly one that may be, and new.
func (l *life) ofTenant() string {
	d, name := l.dice, string(rune('a'+l.dice.roll(5)))
	if there := l.names(); len(there) > 0 && d.roll(16) > 0 {
		name = pick(d, there...)
	}
	id := l.lasts[name] + 1 + d.roll(3)
	if d.roll(6) == 0 { // one that was there, or is between such, or is none
		id = pick(d, 0, -1, 1, 2, l.lasts[name], l.lasts[name]-1, l.lasts[name]-3, l.lasts[name]-9, l.lasts[name]-20)
	}
	l.lasts[name] = max(l.lasts[name], id)
	n := pick(d, 1, 2, 3, 5, 7, 9, 12, 20, 40, 60, 200, 900, 0, -1, api.MaxUnits+1)
	ttl := pick(d, 1, 5, 30, 500, 3000, 3000, 3000, 9999, 9999, api.MaxTTL, 0)
	of := d.roll(l.lasts[name] + 2)
	if a := l.accounts[name]; len(a.Holds) > 0 && d.roll(5) > 0 {
		h := a.Holds[d.roll(len(a.Holds))]
		of = h.Id
		n = pick(d, 1, n, h.Over)
	}
	line := "show k" + name
	switch d.roll(9) {
	case 0, 1, 2:
		line = fmt.Sprintf("hold k%s %d %d %d", name, id, n, ttl)
	case 3, 4, 5:
		line = fmt.Sprintf("commit k%s %d %d %d", name, id, of, n)
	case 6:
		line = fmt.Sprintf("release k%s %d %d", name, id, of)
	case 7:
		line = fmt.Sprintf("pack k%s %d %d %d", name, id, n, ttl)
	}
	l.asked = append(l.asked, line)
	return line
}

// ofAdmin is the admin's next one, mostly one that may be.
func (l *life) ofAdmin() string {
	d, name, of := l.dice, string(rune('a'+l.dice.roll(6))), pick(l.dice, "p", "q", "r")
	last := l.last(of)
	switch d.roll(8) {
	case 0:
		return l.planLine(of, last+pick(d, 1, 1, 1, 0, 2))
	case 1:
		return fmt.Sprintf("tenant %s k%s %s %d", name, pick(d, name, name, "a"), of, 1+d.roll(last+1))
	case 2, 3:
		return fmt.Sprintf("change %s %s %d", name, of, 1+d.roll(last+1))
	case 4:
		return fmt.Sprintf("terms %s %d", name, d.roll(5))
	}
	return fmt.Sprintf("close %d", pick(d, 1, 1, 2, 3, 5, 100, 0))
}

// ofDays asks for a date, or for a term's end.
func (l *life) ofDays() string {
	d := l.dice
	n := pick(d, l.now/day, 0, -1, 11016, -719162, -719163, 2932896, 2932897) + d.roll(60) - pick(d, 0, 30)
	if d.roll(2) == 0 {
		return fmt.Sprintf("date %d", n)
	}
	return fmt.Sprintf("next %d %d %d %d", d.roll(3), d.roll(33), pick(d, 1, 0, 30, 366, 367), n)
}

// noLine is one without words, or that is none.
func (l *life) noLine() string {
	return pick(l.dice, "", " ", "\t#", "# tick 1", "tick", "tick x", "tick 01", "tick -0", "tick 1 1", "crash 1", "show", "show ka kb", `show "ka`, `"show"ka`, `show k"a"`, "hold ka 1 1", "hold ka 1 1 12345678901",
		"close", "close +1", `close "\q"`, "lots", "term a b", `"`, "what", "plan r 1 1 1 1 1 1 1", "tenant e ke p", "Tick 5", "\r", `""`, "date 1 1", "next 0 1 1", "release ka 1", "\xff", "tick\v1", "long", "word", "ok")
}

// disguise writes a line in another way that says the same.
func (l *life) disguise(line string) string {
	d := l.dice
	if d.roll(6) > 0 {
		return line
	}
	words, is := plainWords(line)
	if !is || len(words) == 0 {
		return line
	}
	out := pick(d, "", " ", "\t\t")
	for _, w := range words {
		if d.roll(2) == 0 || strings.ContainsAny(w, "\t \"") || w == "" || w[0] == '#' {
			w = shell.Quote([]byte(w))
		}
		if d.roll(4) == 0 && !strings.ContainsAny(w, `"\`) {
			w = fmt.Sprintf(`"\x%02x%s"`, w[0], w[1:])
		}
		out += w + pick(d, " ", "\t", "  \t")
	}
	return out + pick(d, "", "#", `# "`, "#x y")
}

// holds plays a script that was drawn, and holds the theorems against it.
func (l *life) holds(t testing.TB) []string {
	t.Helper()
	got, p := runs(t, l.script())
	for _, name := range p.names() {
		isThrottled(t, p.passed[name], l.burst, l.rate)
	}
	return split(got)
}

// front holds P2203: what the first lines are answered does not hang on those behind.
func (l *life) front(t testing.TB, all []string) {
	t.Helper()
	for range 3 {
		n := l.rolls(len(l.lines) + 1)
		if got := split(shell.Run(scriptOf(l.lines[:n]))); !slices.Equal(got, all[:n]) {
			t.Fatalf("P2203: the first %d lines of %q: %q, not %q", n, l.lines, got, all[:n])
		}
	}
}

// rolls goes on with the dice where they are at their end.
func (l *life) rolls(n int) int {
	if len(*l.dice) == 0 {
		*l.dice = thrown(64, uint64(len(l.lines)*977+n))
	}
	return (l.dice.roll(256)*256 + l.dice.roll(256)) % n
}

// without holds P2203: lines that are empty or none change nothing, be they laid in between or taken away.
func (l *life) without(t testing.TB, all []string) {
	t.Helper()
	var lines, answers, more []string
	for i, line := range l.lines {
		if all[i] != "" && all[i] != "word" {
			lines, answers = append(lines, line), append(answers, all[i])
		}
	}
	if got := split(shell.Run(scriptOf(lines))); !slices.Equal(got, answers) {
		t.Fatalf("P2203: without what is empty or none: %q: %q, not %q", lines, got, answers)
	}
	for _, line := range lines {
		for l.rolls(3) == 0 && len(more) < 500-len(lines) {
			more = append(more, l.noLine())
		}
		more = append(more, line)
	}
	got := slices.DeleteFunc(split(shell.Run(scriptOf(more))), func(x string) bool { return x == "" || x == "word" })
	if !slices.Equal(got, answers) {
		t.Fatalf("P2203: with such between: %q: %q, not %q", more, got, answers)
	}
}

// TestP2203Lives: scripts drawn at random, each answer held against the plain service.
func TestP2203Lives(t *testing.T) {
	for seed := range 120 {
		d := thrown(1600, uint64(seed)*977+3)
		l := drawn(&d, 300, api.MHard, api.MOver)
		all := l.holds(t)
		if slices.Contains(all, "long") || len(all) < 100 {
			t.Fatalf("%d lines are answered %q", len(l.lines), all)
		}
		l.front(t, all)
		l.without(t, all)
	}
}

// TestP2203Long: few, but of as many lines as may be; among them such whose answers are too much.
func TestP2203Long(t *testing.T) {
	for seed := range 10 {
		d := thrown(6000, uint64(seed)*31+5)
		l := drawn(&d, 512, api.MHard, api.MHard, api.MOver)
		all := l.holds(t)
		if len(all) != 512 {
			t.Fatalf("%d lines", len(all))
		}
		l.front(t, all)
		for i := 60; i < 512; i++ {
			if i%8 != seed {
				l.lines[i] = "lots a"
			}
			if i < 80 {
				l.lines[i] = fmt.Sprintf("pack ka %d %d 100000", 900000000+i, 1000000000-i)
			}
		}
		l.front(t, l.holds(t))
	}
}

// TestT3Hard: where all plans are hard nothing is ever over.
func TestT3Hard(t *testing.T) {
	for seed := range 40 {
		d := thrown(1600, uint64(seed)*13+9)
		l := drawn(&d, 400, api.MHard)
		_, p := runs(t, l.script())
		for name, a := range p.accounts {
			if a.Over != 0 {
				t.Fatalf("T3: %s has %d over", name, a.Over)
			}
		}
	}
}

// FuzzLives looks for scripts, drawn by the dice, that P2202 and P2203 do not hold for.
func FuzzLives(f *testing.F) {
	f.Add([]byte{})
	f.Add([]byte(thrown(400, 3)))
	f.Add([]byte(thrown(1200, 4)))
	f.Fuzz(func(t *testing.T, b []byte) {
		d := dice(b[:min(len(b), 2000)])
		l := drawn(&d, 400, api.MHard, api.MOver)
		all := l.holds(t)
		if !slices.Contains(all, "long") {
			l.front(t, all)
			l.without(t, all)
		}
	})
}

// FuzzScripts looks for scripts, of any bytes, that P2202 does not hold for.
func FuzzScripts(f *testing.F) {
	f.Add("")
	f.Add(stage + strings.Join(tale, "\n"))
	for _, x := range shows {
		f.Add(stage + x.line)
	}
	f.Fuzz(func(t *testing.T, script string) { runs(t, script) })
}
