package shell_test

import (
	"fmt"
	"strings"
	"testing"

	"toll/shell"
)

// wide is a script's front behind which `lots a` is answered by a long line.
func wide() string {
	s := "plan p 1 1000000000 1 366 1000000000 0 1000 1000\ntenant a k p 1\ntick 3999000000\n"
	for n := range 11 {
		s += fmt.Sprintf("pack k %d 1000000000 100000\n", n+1)
	}
	return s
}

// reaches is a script of 500 lines or more, whose answers come to so many bytes together, all but the last one's; of those lines the last few are without words.
func reaches(t *testing.T, many int) string {
	t.Helper()
	s := wide()
	one := len(shell.Run(s+"lots a")) - len(shell.Run(s))
	more := many - len(shell.Run(s))
	for _, x := range []struct {
		line string
		many int
	}{{"lots a", one}, {"date 8", 12}, {"x", 5}, {"", 1}} {
		s += strings.Repeat(x.line+"\n", more/x.many)
		more %= x.many
	}
	if n := len(shell.Run(s)); n != many || strings.Count(s, "\n") > 500 {
		t.Fatalf("%d lines are answered by %d bytes, not %d", strings.Count(s, "\n"), n, many)
	}
	return s
}

// TestP2202Full: answers that come to MaxAnswer bytes together, with any last line, are all told.
func TestP2202Full(t *testing.T) {
	for _, x := range []struct{ line, want string }{{"", "\n"}, {"#", "\n"}, {" \t", "\n"}, {"x", "word\n"}, {`"`, "word\n"}, {"crash", "ok\n"}, {"date 8", "ok 1970 1 9\n"}, {"show x", "auth\n"}, {"tick 1", "ok 3999000001\n"}, {"tick -1", "arg\n"}} {
		front := reaches(t, 131072-len(x.want))
		if got, _ := runs(t, front+x.line+"\n"); len(got) != 131072 || strings.Contains(got, "long") || !strings.HasSuffix(got, "\n"+x.want) {
			t.Errorf("P2202: behind %q: %d bytes, %q at their end", x.line, len(got), got[len(got)-20:])
		}
		for _, rest := range []string{"", "#\n", "x\n\n\"", "crash\n\nshow x\n"} {
			got, _ := runs(t, front+x.line+"\n"+rest)
			if want := x.want + strings.Repeat("long\n", len(split(rest))); !strings.HasSuffix(got, "\n"+want) || len(got) != 131072-len(x.want)+len(want) {
				t.Errorf("P2202: behind %q and %q: %d bytes, %q at their end", x.line, rest, len(got), got[len(got)-20:])
			}
		}
		front = reaches(t, 131073-len(x.want))
		for _, rest := range []string{"", "\n", "x\n#\ndate 8\ncrash"} {
			got, _ := runs(t, front+x.line+"\n"+rest)
			if want := strings.Repeat("long\n", 1+len(split(rest))); !strings.HasSuffix(got, want) || strings.Count(got, "long") != strings.Count(want, "long") || len(got) != 131073-len(x.want)+len(want) {
				t.Errorf("P2202: behind one byte more, %q and %q: %d bytes, %q at their end", x.line, rest, len(got), got[len(got)-20:])
			}
		}
	}
}

// TestP2202Done: the first line that is answered long was done, those behind it are not.
func TestP2202Done(t *testing.T) {
	front := reaches(t, 131070)
	for _, x := range []struct{ first, rest string }{
		{"tick 5", "tick 7\n"}, {"tick 5", "\ntick 0\ntick 900\n"}, {"pack k 12 5 5", "pack k 13 5 5\n"}, {"tick 90000", "plan q 1 1 1 1 1 0 1 1\ncrash\nclose 1\n"},
		{"plan q 1 1 1 1 1 0 1 1", "plan q 2 1 1 1 1 0 1 1\n"}, {"lots a", "plan q 1 1 1 1 1 0 1 1\ntenant b l p 1\ntick 1\n"}, {"x y z", "tenant b l p 1\n"}, {"tenant b l p 1", "tenant c m p 1\nhold l 1 1 1"}, {"close 100", "close 100"}, {"hold k 99 5 5", "release k 100 99"},
	} {
		got, s := shell.Played(front + x.first + "\n" + x.rest)
		alone, want := shell.Played(wide() + x.first)
		if !strings.HasSuffix(got, "\n"+strings.Repeat("long\n", 1+len(split(x.rest)))) || strings.Contains(alone, "long") {
			t.Errorf("P2202: %q: %q at their end", x, got[len(got)-20:])
		}
		if s.Now() != want.Now() || s.Commits() != want.Commits() || fmt.Sprint(s.Names()) != fmt.Sprint(want.Names()) || s.Left() != want.Left() {
			t.Errorf("P2202: %q: tick %d, %d transactions, tenants %q, not %d, %d, %q", x, s.Now(), s.Commits(), s.Names(), want.Now(), want.Commits(), want.Names())
		}
		runs(t, front+x.first+"\n"+x.rest)
	}
}

// TestP2202Long: from the first line on whose answer is too much each one is long, though a shorter one would have its place.
func TestP2202Long(t *testing.T) {
	s := wide() + strings.Repeat("lots a\n", 400) + "\nx\ncrash\n#\n\""
	got, _ := runs(t, s)
	lines := split(got)
	at := strings.Index(got, "long\n")
	if len(lines) != len(split(s)) || at < 131072-1000 || at > 131072 || strings.Trim(got[at:], "long\n") != "" {
		t.Errorf("P2202: %d lines for %d, long behind %d bytes", len(lines), len(split(s)), at)
	}
}
