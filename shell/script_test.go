package shell_test

import (
	"fmt"
	"regexp"
	"strconv"
	"strings"
	"testing"
	"time"

	"toll/api"
	"toll/rec"
	"toll/shell"
)

const (
	day  = api.Day
	last = api.LastTick

	maxScript, maxLines, maxAnswer = 65536, 512, 131072
)

var (
	aWord   = regexp.MustCompile(`(?s)\A[ \t]*(?:"((?:[^"\\]|\\\\|\\"|\\n|\\t|\\x[0-9a-f]{2})*)"|([^ \t"#][^ \t"]*))([ \t]|\z)`)
	anEnd   = regexp.MustCompile(`\A[ \t]*(#|\z)`)
	anEsc   = regexp.MustCompile(`(?s)\\(x..|.)`)
	aNumber = regexp.MustCompile(`\A(0|-?[1-9][0-9]{0,9})\z`)
)

// plainWords is Words as chapter 22 says it.
func plainWords(line string) ([]string, bool) {
	var words []string
	for !anEnd.MatchString(line) {
		m := aWord.FindStringSubmatchIndex(line)
		if m == nil {
			return nil, false
		}
		word := ""
		if m[4] >= 0 {
			word = line[m[4]:m[5]]
		} else {
			word = anEsc.ReplaceAllStringFunc(line[m[2]:m[3]], meant)
		}
		words = append(words, word)
		line = line[m[6]:]
	}
	return words, true
}

// meant is the byte that stands for one of the five.
func meant(s string) string {
	switch s[1] {
	case 'n':
		return "\n"
	case 't':
		return "\t"
	case 'x':
		n, _ := strconv.ParseUint(s[2:], 16, 8)
		return string([]byte{byte(n)})
	}
	return s[1:]
}

// forms are what each command's line has behind the name.
var forms = map[string]string{
	"plan": "T n n n n n n n n", "tenant": "T T T n", "change": "T T n", "close": "n", "terms": "T n", "hold": "T n n n",
	"commit": "T n n n", "release": "T n n", "pack": "T n n n", "show": "T", "tick": "n", "lots": "T", "term": "T",
	"crash": "", "date": "n", "next": "n n n n",
}

// names are the commands', in the order of the table.
var names = strings.Fields("plan tenant change close terms hold commit release pack show tick lots term crash date next")

// isCommand tells whether words are what the table asks for.
func isCommand(words []string) bool {
	form, is := forms[words[0]]
	kinds := strings.Fields(form)
	if !is || len(kinds) != len(words)-1 {
		return false
	}
	for i, k := range kinds {
		if k == "n" && !aNumber.MatchString(words[i+1]) {
			return false
		}
	}
	return true
}

// answer is what a line is answered, without the bound of all answers.
func (p *plain) answer(line string) string {
	words, is := plainWords(line)
	switch {
	case !is:
		return "word"
	case len(words) == 0:
		return ""
	case !isCommand(words):
		return "word"
	}
	n := make([]int, len(words))
	for i, w := range words {
		n[i], _ = strconv.Atoi(w)
	}
	return p.command(words, n)
}

// command does a line that may be; n are its words as numbers.
func (p *plain) command(w []string, n []int) string {
	switch w[0] {
	case "plan":
		x := api.Plan{Name: w[1], Version: n[2], Allowance: n[3], Kind: n[4], Anchor: n[5], Cap: n[6], Mode: n[7], Burst: n[8], Rate: n[9]}
		if x.Kind == 1 {
			x.Anchor, x.Days = 0, n[5]
		}
		return tells(p.do(adds(x)))
	case "tenant":
		return tells(p.do(api.Request{Kind: api.KTenant, Key: "root", Name: w[1], Secret: w[2], Plan: api.Plan{Name: w[3], Version: n[4]}}))
	case "change":
		return tells(p.do(api.Request{Kind: api.KChange, Key: "root", Name: w[1], Plan: api.Plan{Name: w[2], Version: n[3]}}))
	case "close":
		x := p.do(api.Request{Kind: api.KClose, Key: "root", N: n[1]})
		return told(x.Err, x.N, x.Left)
	case "terms":
		x := p.do(api.Request{Kind: api.KTerms, Key: "root", Name: w[1], N: n[2]})
		s := x.Statement
		return told(x.Err, s.From, s.To, s.Granted, s.Consumed, s.Expired, s.Rolled, s.Over)
	case "hold":
		return tells(p.do(api.Request{Kind: api.KHold, Key: w[1], Id: n[2], N: n[3], TTL: n[4]}))
	case "commit":
		return tells(p.do(api.Request{Kind: api.KCommit, Key: w[1], Id: n[2], Of: n[3], N: n[4]}))
	case "release":
		return tells(p.do(api.Request{Kind: api.KRelease, Key: w[1], Id: n[2], Of: n[3]}))
	case "pack":
		return tells(p.do(api.Request{Kind: api.KPack, Key: w[1], Id: n[2], N: n[3], TTL: n[4]}))
	case "show":
		return tells(p.do(api.Request{Kind: api.KShow, Key: w[1]}))
	case "tick":
		return p.ticks(n[1])
	case "lots", "term":
		return p.looks(w[0], w[1])
	case "crash":
		p.crash()
		return "ok"
	case "date":
		return dateOf(n[1])
	}
	return nextOf(n[1], n[2], n[3], n[4])
}

func adds(p api.Plan) api.Request { return api.Request{Kind: api.KPlan, Key: "root", Plan: p} }

// told is an error's word, or ok and numbers.
func told(e api.Errno, n ...int) string {
	if e != api.OK {
		return e.Error()
	}
	return strings.TrimSpace("ok " + strings.Trim(fmt.Sprint(n), "[]"))
}

func tells(x api.Answer) string { return told(x.Err, x.Left, x.Over, x.N) }

func (p *plain) ticks(n int) string {
	if p.now+n < p.now || p.now+n > last {
		return "arg"
	}
	p.now += n
	return fmt.Sprintf("ok %d", p.now)
}

func (p *plain) looks(what, name string) string {
	a, is := p.accounts[name]
	if !is {
		return "none"
	}
	if what == "term" {
		return told(0, a.Term, a.From, a.To, a.Over, len(a.Holds))
	}
	x := "ok"
	for _, l := range a.Lots {
		x += fmt.Sprintf(" %d:%d:%d:%d:%d:%d:%d:%d:%d", l.Id, l.Kind, l.From, l.Until, l.Granted, l.Consumed, l.Held, l.Expired, l.Rolled)
	}
	return x
}

var day0 = time.Date(1970, 1, 1, 0, 0, 0, 0, time.UTC)

// isDay tells whether a day is of the years 1 to 9999.
func isDay(n int) bool { return n >= -719162 && n <= 2932896 }

func dateOf(n int) string {
	if !isDay(n) {
		return "arg"
	}
	d := day0.AddDate(0, 0, n)
	return told(0, d.Year(), int(d.Month()), d.Day())
}

func nextOf(kind, anchor, days, n int) string {
	switch {
	case kind != 0 && kind != 1:
		return "kind"
	case !isDay(n), kind == 0 && (anchor < 1 || anchor > 31), kind == 1 && (days < 1 || days > 366 || !isDay(n+days)):
		return "arg"
	case kind == 1:
		return fmt.Sprintf("ok %d", n+days)
	}
	for next := n + 1; isDay(next); next++ {
		d := day0.AddDate(0, 0, next)
		if d.Day() == anchor || d.Day() < anchor && d.AddDate(0, 0, 1).Day() == 1 {
			return fmt.Sprintf("ok %d", next)
		}
	}
	return "arg"
}

// split parts a script into lines, without their line feeds.
func split(script string) []string {
	lines := strings.SplitAfter(script, "\n")
	if lines[len(lines)-1] == "" {
		lines = lines[:len(lines)-1]
	}
	for i := range lines {
		lines[i] = strings.TrimSuffix(lines[i], "\n")
	}
	return lines
}

// played is a script by the document's words: what it is answered, and the service behind it.
func played(script string) (string, *plain) {
	p, full := newPlain("root"), false
	var all strings.Builder
	lines := split(script)
	if len(script) > maxScript || len(lines) > maxLines {
		return "long\n", p
	}
	for _, l := range lines {
		x := "long\n"
		if !full {
			x = p.answer(l) + "\n"
			full = all.Len()+len(x) > maxAnswer
		}
		if full {
			x = "long\n"
		}
		all.WriteString(x)
	}
	return all.String(), p
}

// runs plays a script, and holds it against the document's words: what it is answered, and what is there behind it.
func runs(t testing.TB, script string) (string, *plain) {
	t.Helper()
	want, p := played(script)
	got := shell.Run(script)
	isAlike(t, script, got, want)
	again, s := shell.Played(script)
	if again != got {
		t.Fatalf("P3: %q is answered in another way the second time", script)
	}
	if s == nil {
		return got, p
	}
	if s.Commits() != p.commits || s.Now() != p.now || fmt.Sprint(s.Names()) != fmt.Sprint(p.names()) {
		t.Fatalf("T1: %d transactions, tick %d, tenants %q, not %d, %d, %q", s.Commits(), s.Now(), s.Names(), p.commits, p.now, p.names())
	}
	for _, name := range p.names() {
		a, _ := s.Account(name)
		if !rec.SameAccount(a, p.accounts[name]) {
			t.Fatalf("T1: Account(%q): %+v, not %+v", name, a, p.accounts[name])
		}
		addsUp(t, a)
		closedOnce(t, a, p.state)
	}
	if p.fault != "" {
		t.Fatal(p.fault)
	}
	return got, p
}

// isAlike holds answers against what they must be, line by line.
func isAlike(t testing.TB, script, got, want string) {
	t.Helper()
	if got == want {
		return
	}
	lines, a, b := split(script), split(got), split(want)
	for i := range min(len(a), len(b)) {
		if a[i] != b[i] {
			t.Fatalf("P2202: line %d: %.200q is answered %q, not %q", i+1, lines[min(i, len(lines)-1)], a[i], b[i])
		}
	}
	t.Fatalf("P2202: %d lines are answered by %d, not %d", len(lines), len(a), len(b))
}

// says holds lines and their answers, by turns, against each other.
func says(t testing.TB, pairs ...string) {
	t.Helper()
	var script, want strings.Builder
	for i := 0; i < len(pairs); i += 2 {
		script.WriteString(pairs[i] + "\n")
		want.WriteString(pairs[i+1] + "\n")
	}
	got, _ := runs(t, script.String())
	isAlike(t, script.String(), got, want.String())
}
