package shell_test

import (
	"slices"
	"strings"
	"testing"

	"toll/api"
	"toll/disk"
	"toll/shell"
)

// tale is a script in which each line that may is done, at a tick of its own.
var tale = split(`plan p 1 100 1 10 30 0 1000 1000
plan q 1 50 1 3 10 1 1000 1000
tenant a ka p 1
tenant b kb q 1
tick 1
hold ka 1 40 5000
tick 1
hold kb 1 70 9000
tick 1
commit ka 2 1 15
tick 1
pack ka 3 7 20000
tick 1
hold ka 4 120 5
tick 1
hold kb 2 9 4
tick 10
release kb 3 2
tick 1
commit kb 4 1 60
tick 1
hold ka 5 30 99999
change b p 1
tick 14390
close 2
tick 1
close 2
tick 1
hold ka 5 30 99999
close 100
tick 1
terms a 1
terms b 1
lots a
lots b
term a
term b
tenant c kc q 1
tick 2
show kc
release ka 6 5
tick 1
hold ka 7 3 3
hold ka 4 120 5`)

// TestP2202Crash: between any two lines of a script the power goes and comes: what was answered is there, the throttle begins empty, the time is the same.
func TestP2202Crash(t *testing.T) {
	whole, _ := runs(t, strings.Join(tale, "\n"))
	all := split(whole)
	for at := range len(tale) + 1 {
		got, _ := runs(t, strings.Join(slices.Insert(slices.Clone(tale), at, "crash"), "\n"))
		lines := split(got)
		if lines[at] != "ok" {
			t.Errorf("P2202: crash is answered %q", lines[at])
		}
		lines = slices.Delete(lines, at, at+1)
		if at == len(tale) || strings.HasPrefix(tale[at], "tick") { // what the throttle has then is as much as each line asks for
			isAlike(t, strings.Join(tale, "\n"), strings.Join(lines, "\n"), strings.Join(all, "\n"))
		}
	}
	var often []string
	for _, l := range tale {
		if strings.HasPrefix(l, "tick") {
			often = append(often, "crash", "crash")
		}
		often = append(often, l)
	}
	got, _ := runs(t, strings.Join(often, "\n"))
	lines := slices.DeleteFunc(split(got), func(l string) bool { return l == "ok" })
	isAlike(t, strings.Join(tale, "\n"), strings.Join(lines, "\n"), strings.Join(all, "\n"))
}

// TestP2202Empty: behind a crash the throttle has none, and goes on from the tick at which it was.
func TestP2202Empty(t *testing.T) {
	front := pairs("plan p 1 100 1 10 30 0 4 3", "ok 0 0 1", "tenant a k p 1", "ok 0 0 1", "tick 77", "ok 77")
	four := pairs("show k", "ok 100 0 0", "show k", "ok 100 0 0", "show k", "ok 100 0 0", "show k", "ok 100 0 0", "show k", "throttle")
	scene(t, front, four, pairs("tick 0", "ok 77", "show k", "throttle", "crash", "ok", "show k", "throttle"))
	scene(t, front, pairs("crash", "ok", "show k", "throttle", "tick 0", "ok 77", "show k", "throttle", "tick 1", "ok 78"), four[2:], pairs("crash", "ok", "tick 2", "ok 80"), four)
	scene(t, front, pairs("crash", "ok", "crash", "ok", "tick 1", "ok 78"), four[2:6], pairs("crash", "ok", "show k", "throttle", "tick 1", "ok 79", "crash", "ok", "show k", "throttle"))
	scene(t, pairs("crash", "ok", "tick 0", "ok 0", "close 1", "ok 0 1", "tick 4000000000", "ok 4000000000", "crash", "ok", "tick 1", "arg", "crash", "ok", "tick 0", "ok 4000000000"))
}

// TestT5Crash: requests that come again behind a crash are answered as they were, and are done once.
func TestT5Crash(t *testing.T) {
	asks := split("hold k 1 40 500\ncommit k 2 1 15\npack k 3 7 9000\nhold k 4 200 5\nhold k 5 60 500\nrelease k 6 5\ncommit k 7 9 1\nhold k 8 0 1")
	script := stage + strings.Join(asks, "\n")
	first, _ := runs(t, script+"\nlots a\nterm a")
	again, _ := runs(t, script+"\ncrash\ntick 1\n"+strings.Join(asks, "\n")+"\nlots a\nterm a\ncrash\nlots a")
	one, two := split(first), split(again)
	n := len(asks)
	if !slices.Equal(one[3:3+n], two[5+n:5+2*n]) || !slices.Equal(one[3+n:], two[5+2*n:7+2*n]) || two[5+2*n] != two[8+2*n] {
		t.Errorf("T5: %q\n%q", one, two)
	}
}

// TestP2202Crashes: as many crashes as a script has lines.
func TestP2202Crashes(t *testing.T) {
	if got := shell.Run(stage + strings.Repeat("crash\n", 509)); got != staged+strings.Repeat("ok\n", 509) {
		t.Errorf("P2202: %q", got)
	}
}

// TestP203Crash: the power truly goes, and writes nothing when it does.
func TestP203Crash(t *testing.T) {
	d, _ := disk.New(64)
	was := slices.Repeat([]byte{7}, api.Block)
	d.Write(0, was)
	shell.CutOff(d)
	if !d.Dead() || d.Writes() != 1 {
		t.Errorf("P203: behind a crash: dead %t, %d writes", d.Dead(), d.Writes())
	}
	d.Start()
	if b, e := d.Read(0); e != api.OK || !slices.Equal(b, was) {
		t.Errorf("P204: behind a crash: %v, %v", b, e)
	}
}
