package shell_test

import (
	"slices"
	"strings"
	"testing"

	"toll/shell"
)

// isRun holds what a script is answered against what it must be.
func isRun(t testing.TB, script, want string) {
	t.Helper()
	got, _ := runs(t, script)
	isAlike(t, script, got, want)
}

// TestP2202Lines: what a line is, and what stands behind the last line feed.
func TestP2202Lines(t *testing.T) {
	for _, x := range []struct{ script, want string }{
		{"", ""}, {"\n", "\n"}, {"\n\n", "\n\n"}, {" ", "\n"}, {"\t\n ", "\n\n"}, {"#", "\n"}, {"# show x\n# \"\n", "\n\n"},
		{"show x", "auth\n"}, {"show x\n", "auth\n"}, {"show x\n\n", "auth\n\n"}, {"\nshow x", "\nauth\n"}, {"show x\n ", "auth\n\n"},
		{"show x\nshow root", "auth\nkind\n"}, {" show\tx # no more", "auth\n"}, {"show x#", "auth\n"}, {"show x #", "auth\n"}, {"show x\t#\"", "auth\n"},
		{"#show x\nshow x", "\nauth\n"}, {"\"show\" \"x\"", "auth\n"}, {"\"\\x73how\" \"\\x72oot\"", "kind\n"},
		{"show \"x\\ny\"", "auth\n"}, {"show \"x\ny\"", "word\nword\n"}, {"show \"a\"b", "word\n"}, {"show \"\"", "auth\n"}, {"show #", "word\n"}, {"show \"#\"", "auth\n"},
		{"show x\r\n", "auth\n"}, {"crash\r\n", "word\n"}, {"\r\n", "word\n"}, {"close 0\r", "word\n"}, {"\x00", "word\n"}, {"\v", "word\n"}, {"\u00a0", "word\n"}, {"\xff", "word\n"},
		{"\"\"", "word\n"}, {"\"", "word\n"}, {"\"crash", "word\n"}, {"\"\\q\"", "word\n"}, {"crash \"", "word\n"}, {"crash # \"", "ok\n"}, {"crash", "ok\n"}, {"crash\ncrash", "ok\nok\n"},
		{"Show x", "word\n"}, {"SHOW x", "word\n"}, {"shows x", "word\n"}, {"sho x", "word\n"}, {"show  x", "auth\n"}, {"\" show\" x", "word\n"}, {"show;", "word\n"},
		{"1", "word\n"}, {"ok", "word\n"}, {"word", "word\n"}, {"long", "word\n"}, {"Now", "word\n"}, {"T", "word\n"}, {"n 1", "word\n"}, {"show\x00x", "word\n"}, {"close\n1", "word\nword\n"},
	} {
		isRun(t, x.script, x.want)
	}
}

// TestP2202Bytes: a script of MaxScript bytes is played, one of a byte more is not, whatever is in it.
func TestP2202Bytes(t *testing.T) {
	of := func(n int) string { return "#" + strings.Repeat("x", n-1) }
	isRun(t, of(65535), "\n")
	isRun(t, of(65536), "\n")
	isRun(t, of(65537), "long\n")
	isRun(t, of(65535)+"\n", "\n")
	isRun(t, of(65536)+"\n", "long\n")
	isRun(t, of(1<<20), "long\n")
	isRun(t, "show x\n"+of(65536-7), "auth\n\n")
	isRun(t, "show x\n"+of(65537-7), "long\n")
	isRun(t, of(65536-7)+"\nshow x", "\nauth\n")
	isRun(t, of(65537-7)+"\nshow x", "long\n")
	isRun(t, strings.Repeat(" ", 65536-5)+"crash", "ok\n")
	isRun(t, strings.Repeat(" ", 65537-5)+"crash", "long\n")
	isRun(t, strings.Repeat("\"", 65536), "word\n")
	isRun(t, "show \""+strings.Repeat("\\xff", 16382)+"\"", "auth\n")
	isRun(t, strings.Repeat("a ", 32768), "word\n")
	isRun(t, "close "+strings.Repeat("9", 65530), "word\n")
	isRun(t, strings.Repeat(strings.Repeat("é", 63)+"\xff\n", 512), strings.Repeat("word\n", 512))
	isRun(t, strings.Repeat("\n", 65536), "long\n")
	isRun(t, strings.Repeat("\n", 65537), "long\n")
}

// TestP2202Many: a script of MaxCmds lines is played, one of a line more is not, whatever they are.
func TestP2202Many(t *testing.T) {
	for _, x := range []struct{ line, want string }{{"", ""}, {"#", ""}, {" ", ""}, {"show x", "auth"}, {"x", "word"}, {"\"", "word"}, {"date 0", "ok 1970 1 1"}} {
		all := strings.Repeat(x.line+"\n", 512)
		want := strings.Repeat(x.want+"\n", 512)
		isRun(t, all[len(x.line)+1:], want[len(x.want)+1:])
		isRun(t, all, want)
		isRun(t, all+x.line+"\n", "long\n")
		isRun(t, all+"x", "long\n")
		isRun(t, all+" ", "long\n")
		isRun(t, all+"\n", "long\n")
		isRun(t, all+"\n\n", "long\n")
		if x.line != "" {
			isRun(t, all[:len(all)-1], want)
			isRun(t, all+x.line, "long\n")
		}
	}
}

// shows is a good line of each command, in the order of the table, and what it is answered if they come in this order.
var shows = []struct{ line, want string }{
	{"plan p 2 100 1 10 30 0 500 50", "ok 0 0 2"}, {"tenant b l p 2", "ok 0 0 1"}, {"change a p 2", "ok 0 0 100"}, {"close 1", "ok 0 1"}, {"terms a 1", "none"},
	{"hold k 1 2 3", "ok 98 0 2"}, {"commit k 2 1 1", "ok 99 0 1"}, {"release k 3 1", "none"}, {"pack k 4 5 6", "ok 104 0 3"}, {"show k", "ok 104 0 0"}, {"tick 7", "ok 17"},
	{"lots a", "ok 1:0:0:14400:100:0:0:100:0 2:0:10:14400:100:1:0:0:0 3:2:10:16:5:0:0:0:0"}, {"term a", "ok 1 0 10 0 0"}, {"crash", "ok"}, {"date 8", "ok 1970 1 9"}, {"next 0 1 2 3", "ok 31"},
}

// stage is ahead of them: the tenant a, whose key is k, may ask.
const stage = "plan p 1 100 1 10 30 0 500 50\ntenant a k p 1\ntick 10\n"

const staged = "ok 0 0 1\nok 0 0 1\nok 10\n"

// TestP2202Shows: each command as the table has it, also with its words quoted and far apart.
func TestP2202Shows(t *testing.T) {
	var plain, quoted, apart, want string
	for i, x := range shows {
		if name, _, _ := strings.Cut(x.line, " "); name != names[i] {
			t.Fatalf("P2202: %s stands where %s must", name, names[i])
		}
		want += x.want + "\n"
		plain += x.line + "\n"
		apart += "\t " + strings.ReplaceAll(x.line, " ", " \t ") + " \t# " + x.line + "\n"
		for _, w := range strings.Fields(x.line) {
			quoted += shell.Quote([]byte(w)) + " "
		}
		quoted += "\n"
	}
	for _, script := range []string{plain, quoted, apart} {
		isRun(t, stage+script, staged+want)
	}
}

// TestP2202Forms: a command with a word less or more, wherever, is none, and does nothing.
func TestP2202Forms(t *testing.T) {
	for i, x := range shows {
		words := strings.Fields(x.line)
		var bad []string
		for at := 1; at < len(words); at++ {
			bad = append(bad, strings.Join(slices.Delete(slices.Clone(words), at, at+1), " "))
		}
		for at := 1; at <= len(words); at++ {
			for _, more := range []string{"1", "p", `""`, `"1"`, words[at-1], "\r"} {
				bad = append(bad, strings.Join(slices.Insert(slices.Clone(words), at, more), " "))
			}
		}
		bad = append(bad, x.line+" "+x.line, x.line+` "`, `" `+x.line+`"`, words[0]+"x"+x.line[len(words[0]):], strings.ToUpper(words[0])+x.line[len(words[0]):])
		if len(words) > 1 {
			bad = append(bad, words[0], words[0]+" #"+x.line[len(words[0]):])
		}
		isRun(t, stage+strings.Join(bad, "\n"), staged+strings.Repeat("word\n", len(bad)))
		isNothing(t, i, bad)
	}
}

// isNothing holds that lines that are none change nothing of what stands around them.
func isNothing(t *testing.T, command int, bad []string) {
	t.Helper()
	script, want := stage, staged
	for i, x := range shows {
		if i == command {
			script += strings.Join(bad, "\n") + "\n"
			want += strings.Repeat("word\n", len(bad))
		}
		script += x.line + "\n"
		want += x.want + "\n"
	}
	isRun(t, script, want)
}

// spoiled are the lines of a command of which one number is another word.
func spoiled(line string, others []string) []string {
	words := strings.Fields(line)
	var all []string
	for at, kind := range strings.Fields(forms[words[0]]) {
		for _, w := range others {
			if kind == "n" {
				all = append(all, strings.Join(slices.Replace(slices.Clone(words), at+1, at+2, w), " "))
			}
		}
	}
	return all
}

// TestP2202NoNumbers: what is no number, at each number's place.
func TestP2202NoNumbers(t *testing.T) {
	bad := strings.Fields(`01 00 007 -0 -00 -01 - -- --1 -+1 +1 +0 + 1- 1+ 1.0 1. .5 1e3 0x1 0b1 0o7 1_0 1,0 a 1a a1 ½ １ ٣ inf nan
		12345678901 -12345678901 10000000000 -10000000000 00000000001 0000000001 99999999999 9223372036854775807 9223372036854775808 -9223372036854775808 18446744073709551617
		"" "1\n" "\t1" "1\x00" "\x00" "-\x20\x31"`)
	bad = append(bad, strings.Repeat("1", 300), strings.Repeat("0", 20)+"1", `" 1"`, `"1 "`, `"- 1"`, `"1\t"`)
	for i, x := range shows {
		all := spoiled(x.line, bad)
		for len(all) > 0 {
			n := min(len(all), 400)
			isRun(t, stage+strings.Join(all[:n], "\n"), staged+strings.Repeat("word\n", n))
			isNothing(t, i, all[:min(n, 100)])
			all = all[n:]
		}
	}
}

// TestP2202Numbers: numbers of one digit to ten, below 0 too, quoted too, at each number's place: the line is done.
func TestP2202Numbers(t *testing.T) {
	good := strings.Fields(`0 1 2 9 10 12 31 32 99 100 101 366 367 1000 1001 100000 100001 1000000 1000001 1000000000 1000000001 2147483647 2147483648 4000000000 4000000001 4294967296 9999999999
		-1 -9 -10 -719162 -719163 -2147483648 -2147483649 -4294967296 -9999999999 "5" "-5" "\x35" "\x2d7" "9999999999"`)
	for _, x := range shows {
		for _, l := range spoiled(x.line, good) {
			got, _ := runs(t, stage+l+"\nlots a\nterm a\nshow k\ntick 0")
			if strings.Contains(got, "word") {
				t.Errorf("P2202: %q is answered %q", l, got)
			}
		}
	}
}

// TestP2202Left: nothing of one script is left in the next, whatever it was, nor in one that is played at the same time.
func TestP2202Left(t *testing.T) {
	var script, want string
	for _, x := range shows {
		script += x.line + "\n"
		want += x.want + "\n"
	}
	for _, other := range []string{"", script, stage, stage + script, stage + "tick 3000000000\ncrash\nclose 100\nhold k 1 2 3", "tick 4000000000", strings.Repeat("\n", 513), strings.Repeat(stage, 170), "plan p 1 7 1 1 0 1 1 0\ntenant k a p 1"} {
		shell.Run(other)
		isRun(t, "tick 0\nlots a\nterm a\nterms a 1\nshow k\nclose 5\ntenant a k p 1\nchange a p 1\n", "ok 0\nnone\nnone\nnone\nauth\nok 0 1\nnone\nnone\n")
		isRun(t, stage+script, staged+want)
	}
	done := make(chan string)
	for range 8 {
		go func() { done <- shell.Run(stage + script) }()
	}
	for range 8 {
		if got := <-done; got != staged+want {
			t.Errorf("P2202: played beside others: %q", got)
		}
	}
}
