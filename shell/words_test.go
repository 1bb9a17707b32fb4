package shell_test

import (
	"slices"
	"strings"
	"testing"

	"toll/api"
	"toll/shell"
)

// takes holds Words of a line against what it must be.
func takes(t testing.TB, line string, want ...string) {
	t.Helper()
	if got, e := shell.Words(line); e != api.OK || !slices.Equal(got, want) {
		t.Errorf("P2201: Words(%q): %q, %v, not %q", line, got, e, want)
	}
}

// refuses holds that a line has no words that may be.
func refuses(t testing.TB, line string) {
	t.Helper()
	if got, e := shell.Words(line); e != api.ErrWord || got != nil {
		t.Errorf("P2201: Words(%q): %q, %v, not ErrWord", line, got, e)
	}
}

// TestP2201Plain: plain words, parted by blanks and tabs alone.
func TestP2201Plain(t *testing.T) {
	for _, line := range []string{"", " ", "\t", "  ", "\t\t", " \t \t\t  "} {
		takes(t, line)
	}
	for _, part := range []string{" ", "\t", "  ", "\t\t", " \t", "\t "} {
		takes(t, "a"+part+"b", "a", "b")
		takes(t, part+"a"+part+"b"+part+"c"+part, "a", "b", "c")
	}
	takes(t, "a", "a")
	takes(t, "one two\tthree", "one", "two", "three")
	takes(t, `a\ \n \x41 \\ \`, `a\`, `\n`, `\x41`, `\\`, `\`)
	takes(t, "a'b `c` (d) -5 é", "a'b", "`c`", "(d)", "-5", "é")
	takes(t, "a\nb \n\n \r\v\f \x00", "a\nb", "\n\n", "\r\v\f", "\x00")
	takes(t, "\x7f\x80\xff \xc3 \u00a0\u2003", "\x7f\x80\xff", "\xc3", "\u00a0\u2003")
	for c := range 256 {
		b := string([]byte{byte(c)})
		switch b {
		case " ", "\t":
			takes(t, "x"+b+"y", "x", "y")
			takes(t, b)
		case `"`:
			refuses(t, "x"+b+"y")
			refuses(t, b)
		case "#":
			takes(t, "x"+b+"y", "x#y")
			takes(t, b)
		default:
			takes(t, "x"+b+"y", "x"+b+"y")
			takes(t, b+" "+b, b, b)
		}
	}
}

// TestP2201Quoted: quoted words, their five escapes, and where they end.
func TestP2201Quoted(t *testing.T) {
	takes(t, `""`, "")
	takes(t, `"" ""`, "", "")
	takes(t, "\"\"\t\"\" a", "", "", "a")
	takes(t, `"a b"`, "a b")
	takes(t, ` "a" b "c d"	"e"`, "a", "b", "c d", "e")
	takes(t, `"a" `, "a")
	takes(t, "\"a\"\t", "a")
	takes(t, "\"a\"\tb", "a", "b")
	takes(t, `"\\"`, `\`)
	takes(t, `"\""`, `"`)
	takes(t, `"\n"`, "\n")
	takes(t, `"\t"`, "\t")
	takes(t, `"\x00"`, "\x00")
	takes(t, `"\\\"\n\t\x7e"`, "\\\"\n\t~")
	takes(t, `"\\\\" "\\n" "\\x41" "\"\""`, `\\`, `\n`, `\x41`, `""`)
	takes(t, `"\x4142\n3" "n\tt"`, "A42\n3", "n\tt")
	takes(t, `"# a" "#" "a#"`, "# a", "#", "a#")
	takes(t, "\"\x01 \t\n\r\x1f\x7f\x80\xc3\xff é\"", "\x01 \t\n\r\x1f\x7f\x80\xc3\xff é")
	for c := range 256 {
		b := []byte{byte(c)}
		if c != '"' && c != '\\' {
			takes(t, `"`+string(b)+`"`, string(b))
			takes(t, `"x`+string(b)+string(b)+`y" z`, "x"+string(b)+string(b)+"y", "z")
		}
		takes(t, `"\x`+hex(c)+`"`, string(b))
		takes(t, `"\x`+hex(c)+hex(c)+`"`, string(b)+hex(c))
	}
}

// hex is a byte by two digits.
func hex(c int) string {
	const all = "0123456789abcdef"
	return string([]byte{all[c/16], all[c%16]})
}

// TestP2201Refused: what may not be, alone and among others; nothing stands beside the error.
func TestP2201Refused(t *testing.T) {
	for _, word := range []string{
		`"`, `"a`, `"a b`, `"a # b`, `"\"`, `"\\\"`, `"a\"`, `"\`, `"a\`, `"\x`, `"\x0`, `"\x00`, `"\n`,
		`"a"b`, `"a""b"`, `""""`, `"""`, `"a"#`, `""#`, `"a"# b`, `"a"\`, "\"a\"\n", "\"a\"\r", "\"a\"\x00", "\"a\"\xff", "\"a\"\u00a0",
		`a"`, `a"b`, `a"b"`, `a""`, `a#"`, `\"`, `\""`, `a\"b\"`, `-"5"`, `a"#`,
		`"\a"`, `"\ "`, `"\r"`, `"\0"`, `"\N"`, `"\T"`, `"\'"`, `"\#"`, `"\u0041"`, `"\101"`, "\"\\\n\"", "\"\\\t\"", `"\ÿ"`,
		`"\x"`, `"\x "`, `"\x4"`, `"\x4 1"`, `"\x4g"`, `"\xg4"`, `"\x4A"`, `"\xA4"`, `"\xFF"`, `"\X41"`, `"\x-1"`, `"\x+1"`, `"\x 1"`, `"\x4"1"`, `"\x"41"`, `"\x/0"`, `"\x0:"`, "\"\\x`0\"", "\"\\x0\xff\"", `"\x4\"`,
	} {
		refuses(t, word)
		refuses(t, "a "+word)
		refuses(t, " \t"+word)
		refuses(t, `"a" `+word)
		refuses(t, "show "+word+" ")
	}
	for c := range 256 {
		b := string([]byte{byte(c)})
		if !strings.Contains(`\"nt`, b) {
			refuses(t, `"\`+b+`"`)
		}
		if !strings.Contains("0123456789abcdef", b) {
			refuses(t, `"\x0`+b+`"`)
			refuses(t, `"\x`+b+`0"`)
		}
		if b != " " && b != "\t" {
			refuses(t, `"a"`+b)
			refuses(t, `"a"`+b+` b`)
		}
	}
}

// TestP2201Rest: a # where a word would begin ends the words, whatever is behind it; within a word it is a sign as any other.
func TestP2201Rest(t *testing.T) {
	for _, rest := range []string{"", " ", "a", " a b", `"`, ` "a`, `"a"b`, `a"`, ` "\q"`, "#", "\n", "\x00\xff", ` "\x"`} {
		takes(t, "#"+rest)
		takes(t, " \t#"+rest)
		takes(t, "a #"+rest, "a")
		takes(t, "a\t#"+rest, "a")
		takes(t, `"a b" #`+rest, "a b")
		takes(t, `"" #`+rest, "")
		takes(t, "a b#c d #"+rest, "a", "b#c", "d")
		refuses(t, `"a"#`+rest)
		refuses(t, `a" #`+rest)
		refuses(t, `"\a" #`+rest)
	}
	takes(t, "a# b", "a#", "b")
	takes(t, "a#b#c", "a#b#c")
	takes(t, `"a" b# # c`, "a", "b#")
	takes(t, `\# a`, `\#`, "a")
	refuses(t, `"a # b`)
	refuses(t, `a "b# # c`)
}

// TestP2201Quote: each byte, written by hand.
func TestP2201Quote(t *testing.T) {
	all := make([]byte, 256)
	for c := range 256 {
		all[c] = byte(c)
		want := `"` + string(all[c:c+1]) + `"`
		switch {
		case c == '\\':
			want = `"\\"`
		case c == '"':
			want = `"\""`
		case c == 10:
			want = `"\n"`
		case c == 9:
			want = `"\t"`
		case c < 32 || c > 126:
			want = `"\x` + hex(c) + `"`
		}
		if got := shell.Quote(all[c : c+1]); got != want {
			t.Errorf("P2201: Quote of byte %d: %s, not %s", c, got, want)
		}
	}
	for _, x := range []struct{ of, want string }{
		{"", `""`}, {"a b", `"a b"`}, {"#", `"#"`}, {"'", `"'"`}, {"\x1f \x7e\x7f\x80", `"\x1f ~\x7f\x80"`},
		{`\n`, `"\\n"`}, {`\x41`, `"\\x41"`}, {`""`, `"\"\""`}, {"é", `"\xc3\xa9"`}, {"\x00\x000", `"\x00\x000"`}, {"\r\n\t", `"\x0d\n\t"`},
	} {
		if got := shell.Quote([]byte(x.of)); got != x.want {
			t.Errorf("P2201: Quote(%q): %s, not %s", x.of, got, x.want)
		}
	}
	if shell.Quote(nil) != `""` {
		t.Errorf("P2201: Quote of no list: %s", shell.Quote(nil))
	}
	isQuoted(t, all)
	slices.Reverse(all)
	isQuoted(t, all)
	isQuoted(t, []byte(strings.Repeat("\"\\\n\t\x00 #", 9000)))
}

// isQuoted holds that Words of what Quote says, alone and among others, tells the bytes, and that no sign stands in it which may not.
func isQuoted(t testing.TB, b []byte) {
	t.Helper()
	was := string(b)
	q := shell.Quote(b)
	if string(b) != was {
		t.Fatalf("P2: Quote changed %q to %q", was, b)
	}
	if i := strings.IndexFunc(q, func(c rune) bool { return c < ' ' || c > '~' }); i >= 0 {
		t.Fatalf("P2201: Quote(%q): %q", b, q)
	}
	takes(t, q, was)
	takes(t, "a "+q+" b", "a", was, "b")
	takes(t, "\t"+q+"\t"+q+" # "+q, was, was)
	refuses(t, "a"+q)
	refuses(t, q+q)
	refuses(t, q+"#")
}

// TestP2201Mirror: lines of few signs, all there are of up to six, against a plain reading.
func TestP2201Mirror(t *testing.T) {
	const signs = "\" \\xa#"
	var all func(line string, more int)
	all = func(line string, more int) {
		isTaken(t, line)
		for i := 0; i < len(signs) && more > 0; i++ {
			all(line+signs[i:i+1], more-1)
		}
	}
	all("", 6)
	all(`"\x`, 4)
}

// isTaken holds Words of a line against a plain reading.
func isTaken(t testing.TB, line string) {
	t.Helper()
	want, is := plainWords(line)
	got, e := shell.Words(line)
	if !slices.Equal(got, want) || (e == api.OK) != is || e != api.OK && e != api.ErrWord {
		t.Fatalf("P2201: Words(%q): %q, %v, not %q, %t", line, got, e, want, is)
	}
}

// TestP2Words: what is answered stays when what was handed in changes, and is nobody else's.
func TestP2Words(t *testing.T) {
	b := []byte(`plain "quoted" "es\"caped" last`)
	line := lent(b)
	words, e := shell.Words(line)
	q := shell.Quote(b[:5])
	for i := range b {
		b[i] = 'x'
	}
	if e != api.OK || !slices.Equal(words, []string{"plain", "quoted", `es"caped`, "last"}) || q != `"plain"` {
		t.Errorf("P2: %q, %s", words, q)
	}
	one, _ := shell.Words("a b c")
	two, _ := shell.Words("a b c")
	for i := range one[:cap(one)] {
		one[:cap(one)][i] = "z"
	}
	if !slices.Equal(two, []string{"a", "b", "c"}) {
		t.Errorf("P2: two answers share memory: %q", two)
	}
}

// FuzzWords looks for lines and bytes that P2201 does not hold for.
func FuzzWords(f *testing.F) {
	for _, s := range []string{"", `show "a b" # c`, `"\\\"\n\t\x0a" x`, `"a"b`, "a\t\"\xff\"#", `"\xAB"`} {
		f.Add(s)
	}
	f.Fuzz(func(t *testing.T, s string) {
		isTaken(t, s)
		isTaken(t, `"`+s+`"`)
		isTaken(t, `a "`+s+`" `)
		isQuoted(t, []byte(s))
	})
}
