package shell_test

import (
	"fmt"
	"strings"
	"testing"
)

const longest = "abcdefghijklmnopqrst-089" // a name of 24 bytes

// alike are lines that are all answered alike.
func alike(want string, lines ...string) []string {
	var pairs []string
	for _, l := range lines {
		pairs = append(pairs, l, want)
	}
	return pairs
}

// scene is lines and their answers, by turns, part by part.
func scene(t *testing.T, parts ...[]string) {
	t.Helper()
	var all []string
	for _, x := range parts {
		all = append(all, x...)
	}
	says(t, all...)
}

func pairs(l ...string) []string { return l }

// TestP2202Plan: plans by months, by days and of another kind; each error, in order.
func TestP2202Plan(t *testing.T) {
	scene(t,
		alike("arg",
			`plan "" 1 1 1 1 0 0 1 0`, "plan P 1 1 1 1 0 0 1 0", "plan "+longest+"z 1 1 1 1 0 0 1 0", `plan "p " 1 1 1 1 0 0 1 0`, "plan p.q 1 1 1 1 0 0 1 0", `plan "\xff" 1 1 1 1 0 0 1 0`,
			"plan p 0 1 1 1 0 0 1 0", "plan p -1 1 1 1 0 0 1 0", "plan p 2 1 1 1 0 0 1 0", "plan p 1000000 1 1 1 0 0 1 0", "plan p 1000001 1 1 1 0 0 1 0",
			"plan p 1 -1 1 1 0 0 1 0", "plan p 1 1000000001 1 1 0 0 1 0", "plan p 1 1 1 1 -1 0 1 0", "plan p 1 1 1 1 1000000001 0 1 0",
			"plan p 1 1 1 0 0 0 1 0", "plan p 1 1 1 367 0 0 1 0", "plan p 1 1 1 -1 0 0 1 0", "plan p 1 1 0 0 0 0 1 0", "plan p 1 1 0 32 0 0 1 0", "plan p 1 1 0 -1 0 0 1 0",
			"plan p 1 1 2 1 0 0 1 0", "plan p 1 1 2 0 0 0 1 0", "plan p 1 1 -1 1 0 0 1 0", "plan p 1 1 9999999999 1 0 0 1 0",
			"plan p 1 1 1 1 0 2 1 0", "plan p 1 1 1 1 0 -1 1 0", "plan p 1 1 1 1 0 0 0 0", "plan p 1 1 1 1 0 0 100001 0", "plan p 1 1 1 1 0 0 1 -1", "plan p 1 1 1 1 0 0 1 1001"),
		pairs("plan p 1 0 1 1 0 0 1 0", "ok 0 0 1", "plan p 1 0 1 1 0 0 1 0", "is", "plan p 1 5 0 31 9 1 9 9", "is", "plan p 1 5 2 31 9 1 9 9", "arg", "plan p 0 5 0 31 9 1 9 9", "arg",
			"plan p 3 1 1 1 0 0 1 0", "arg", "plan p 2 1000000000 1 366 1000000000 1 100000 1000", "ok 0 0 2", "plan p 3 7 0 31 0 0 1 0", "ok 0 0 3", "plan p 2 7 0 31 0 0 1 0", "is",
			"plan "+longest+" 1 9 0 1 0 0 1 1", "ok 0 0 1", "plan - 1 9 0 1 0 0 1 1", "ok 0 0 1", "plan 0 1 9 0 1 0 0 1 1", "ok 0 0 1"),
		pairs("tick 44644320", "ok 44644320", "tenant a ka p 1", "ok 0 0 1", "tenant b kb p 2", "ok 0 0 1", "tenant c kc p 3", "ok 0 0 1", // 2054-11-19 is day 31003
			"date 31003", "ok 2054 11 19", "term a", "ok 1 31003 31004 0 0", "term b", "ok 1 31003 31369 0 0", "term c", "ok 1 31003 31014 0 0", "date 31014", "ok 2054 11 30",
			"lots a", "ok 1:0:44644320:44645760:0:0:0:0:0", "lots b", "ok 1:0:44644320:45171360:1000000000:0:0:0:0", "lots c", "ok 1:0:44644320:44660160:2:0:0:0:0"), // 11 days of 30
	)
	var all []string
	for n := range 32 {
		all = append(all, fmt.Sprintf("plan p%d 1 1 1 1 0 0 1 0", n), "ok 0 0 1")
	}
	scene(t, all, pairs("plan q 1 1 1 1 0 0 1 0", "many", "plan q 2 1 1 1 0 0 1 0", "arg", "plan Q 1 1 1 1 0 0 1 0", "arg", "plan p31 2 1 1 1 0 0 1 0", "ok 0 0 2", "plan p31 2 1 1 1 0 0 1 0", "is",
		"crash", "ok", "plan q 1 1 1 1 0 0 1 0", "many", "plan p0 1 1 1 1 0 0 1 0", "is"))
}

// TestP2202Tenant: each error, in order; a key may be a name, and a name a key.
func TestP2202Tenant(t *testing.T) {
	scene(t,
		pairs("plan p 1 100 1 10 30 0 5 1", "ok 0 0 1", "tenant a ka p 1", "ok 0 0 1"),
		alike("arg", `tenant "" kb p 1`, "tenant B kb p 1", "tenant "+longest+"z kb p 1", `tenant b "" p 1`, "tenant b KB p 1", "tenant b "+longest+"z p 1", `tenant "b " kb p 1`, `tenant b "k\n" p 1`, "tenant A root q 9", "tenant a KA q 9"),
		alike("is", "tenant a kb p 1", "tenant b ka p 1", "tenant b root p 1", "tenant a ka p 1", "tenant a kb q 1", "tenant b root q 9"),
		alike("none", "tenant b kb q 1", "tenant b kb p 2", "tenant b kb p 0", "tenant b kb p -1", `tenant b kb "" 1`, "tenant b kb P 1", "tenant b kb p 9999999999"),
		pairs("lots b", "none", "show kb", "auth", "tenant b kb p 1", "ok 0 0 1", "tenant root a p 1", "ok 0 0 1", "tenant ka b p 1", "ok 0 0 1", "tenant "+longest+" "+longest+" p 1", "ok 0 0 1",
			"lots root", "ok 1:0:0:14400:100:0:0:0:0", "show root", "kind", "show b", "throttle", "tick 1", "ok 1", "show b", "ok 100 0 0", "show b", "throttle", "show "+longest, "ok 100 0 0", "term "+longest, "ok 1 0 10 0 0"),
	)
	all := pairs("plan p 1 1 1 1 0 0 1 1", "ok 0 0 1")
	for n := range 256 {
		all = append(all, fmt.Sprintf("tenant t%d k%d p 1", n, n), "ok 0 0 1")
	}
	scene(t, all, pairs("tenant b kb p 1", "many", "tenant b kb p 2", "none", "tenant b k3 p 1", "is", "tenant B kb p 1", "arg", "crash", "ok", "tenant b kb p 1", "many",
		"tick 1440", "ok 1440", "show k255", "ok 0 0 0", "show kb", "auth", "close 100", "ok 100 0", "close 100", "ok 100 0", "close 100", "ok 56 1", "show k0", "ok 1 0 0", "show k255", "throttle"))
}

// TestP2202Change: each error, in order; the share of the days that are left, in this term and in a later one.
func TestP2202Change(t *testing.T) {
	all := pairs("plan p 1 100 1 10 30 0 500 50", "ok 0 0 1", "plan p 2 60 1 7 5 1 500 50", "ok 0 0 2", "plan m 1 310 0 1 5 1 500 50", "ok 0 0 1", "tenant a k p 1", "ok 0 0 1", "tick 10", "ok 10")
	scene(t, all,
		alike("none", "change b p 1", "change a p 3", "change a p 0", "change a q 1", `change "" p 1`, `change a "" 1`, "change A p 1", "change k p 1", "change b q 1", "change a p -5"),
		pairs("hold k 1 30 100", "ok 70 0 30", "commit k 2 1 20", "ok 80 0 20", "hold k 3 10 100", "ok 70 0 10", "tick 5750", "ok 5760", // day 4
			"term a", "ok 1 0 10 0 1", "lots a", "ok 1:0:0:14400:100:20:10:0:0", "change a p 2", "ok 0 0 36", "term a", "ok 1 0 10 0 0", "lots a", "ok 1:0:0:14400:100:20:0:80:0 2:0:5760:14400:36:0:0:0:0",
			"change a m 1", "ok 0 0 186", "show k", "ok 186 0 0", "hold k 4 200 10", "ok 0 0 186", "change a p 1", "ok 0 0 60", "lots a", "ok 1:0:0:14400:100:20:0:80:0 2:0:5760:14400:36:0:0:36:0 3:0:5760:14400:186:0:186:0:0 4:0:5760:14400:60:0:0:0:0",
			"hold k 5 61 10", "quota", "commit k 6 4 200", "ok 60 14 200", "term a", "ok 1 0 10 14 0", "tick 8640", "ok 14400", "change a m 1", "over", "change a m 2", "none", "close 1", "ok 1 1", "terms a 1", "ok 0 10 382 206 146 30 14",
			"term a", "ok 2 10 20 0 0", "change a m 1", "ok 0 0 310", "change a m 1", "ok 0 0 310", "term a", "ok 2 10 20 0 0", "lots a", "ok 5:0:14400:28800:100:0:0:100:0 6:1:14400:28800:30:0:0:0:0 7:0:14400:28800:310:0:0:310:0 8:0:14400:28800:310:0:0:0:0",
			"tick 14399", "ok 28799", "change a p 2", "ok 0 0 6", "tick 1", "ok 28800", "change a p 2", "over", "close 1", "ok 1 1", "term a", "ok 3 20 27 0 0"))
	var more []string
	for n := range 11 {
		more = append(more, fmt.Sprintf("pack k %d 1 50", n+1), fmt.Sprintf("ok %d 0 %d", 101+n, n+2))
	}
	scene(t, all, more, pairs("change a p 2", "many", "pack k 12 1 50", "many", "change a p 3", "none", "tick 50", "ok 60", "change a p 2", "many", "tick 14340", "ok 14400", "change a p 2", "over", "close 1", "ok 1 1", "change a p 2", "ok 0 0 60", "pack k 13 1 50", "ok 91 0 16"))
}

// TestP2202Close: runs of closings, in one line and in several, cut off between; what terms, lots and term tell then.
func TestP2202Close(t *testing.T) {
	all := pairs("plan p 1 100 1 10 30 0 500 50", "ok 0 0 1", "plan q 1 50 1 3 0 1 500 50", "ok 0 0 1", "tenant c kc p 1", "ok 0 0 1", "tenant a ka p 1", "ok 0 0 1", "tenant b kb q 1", "ok 0 0 1")
	bounds := append(alike("arg", "close 0", "close 101", "close -1", "close 9999999999", "close -9999999999"), "close 1", "ok 0 1", "close 100", "ok 0 1")
	behind := pairs("terms a 1", "ok 0 10 100 12 58 30 0", "terms b 1", "ok 0 3 50 0 50 0 0", "terms b 3", "ok 6 9 50 0 50 0 0", "terms b 4", "none", "terms c 1", "ok 0 10 107 0 77 30 0",
		"lots a", "ok 2:0:14400:28800:100:0:0:0:0 3:1:14400:28800:30:0:0:0:0", "lots b", "ok 4:0:12960:17280:50:0:0:0:0", "lots c", "ok 3:0:14400:28800:100:0:0:0:0 4:1:14400:28800:30:0:0:0:0",
		"term a", "ok 2 10 20 0 0", "term b", "ok 4 9 12 0 0", "term c", "ok 2 10 20 0 0", "commit ka 3 1 1", "none", "hold ka 4 131 5", "quota", "hold kb 4 61 5", "ok 0 0 50", "release kb 5 4", "ok 50 0 61")
	used := pairs("tick 10", "ok 10", "hold ka 1 12 9", "ok 88 0 12", "commit ka 2 1 12", "ok 88 0 12", "hold ka 9 50 99999", "ok 38 0 50", "pack kc 1 7 5", "ok 107 0 2", "close 5", "ok 0 1", "tick 14389", "ok 14399")
	scene(t, all, bounds, used, pairs("close 2", "ok 2 0", "close 2", "ok 1 1", "tick 1", "ok 14400", "close 5", "ok 2 1", "term b", "ok 4 9 12 0 0", "commit ka 3 9 1", "none"), behind[:26])
	scene(t, all, used, pairs("tick 11", "ok 14410", "close 3", "ok 3 0", "close 3", "ok 2 1"), behind)
	scene(t, all, used, pairs("tick 11", "ok 14410", "close 1", "ok 1 0", "crash", "ok", "close 1", "ok 1 0", "tick 5", "ok 14415", "close 1", "ok 1 0", "crash", "ok", "close 1", "ok 1 0", "tick 1000000", "ok 1014415", "crash", "ok", "close 100", "ok 1 1",
		"terms b 4", "none", "close 1", "ok 1 0", "crash", "ok", "terms a 2", "ok 10 20 130 0 100 30 0"))
	scene(t, all, used, alike("none", "terms a 0", "terms a -1", "terms a 1", "terms a 2", "terms x 1", `terms "" 1`, "terms ka 1", "terms root 1", "terms A 1", "terms a 9999999999", "lots x", "lots ka", "lots root", `lots ""`, "lots A", `term "a "`, "term x", "term ka", `term ""`))
}

// TestP2202Asks: what a tenant asks for, and each error: of the key, of the throttle, of numbers, of what is there.
func TestP2202Asks(t *testing.T) {
	front := pairs("plan p 1 100 1 10 30 0 10 9", "ok 0 0 1", "plan q 1 10 1 10 0 1 10 9", "ok 0 0 1", "tenant a ka p 1", "ok 0 0 1", "tenant b kb q 1", "ok 0 0 1")
	asks := func(key string) []string {
		return []string{"hold " + key + " 1 1 1", "commit " + key + " 2 1 1", "release " + key + " 3 1", "pack " + key + " 4 1 1", "show " + key}
	}
	for _, key := range []string{"x", "a", "KA", `""`, `"ka "`, `"\xff"`, longest + "z", `"` + strings.Repeat("k", 300) + `"`, "-1", "Root"} {
		scene(t, front, alike("auth", asks(key)...))
	}
	scene(t, front, alike("kind", asks("root")...), alike("throttle", asks("ka")...), pairs("tick 1", "ok 1", "show ka", "ok 100 0 0", "show kb", "ok 10 0 0"))
	scene(t, front, pairs("tick 2", "ok 2"),
		alike("arg", "hold ka 0 1 1", "hold ka -1 1 1", "commit ka 0 1 1", "release ka -9 1", "pack ka 0 1 1", "hold ka 1 0 1", "hold ka 2 1000000001 1", "hold ka 3 1 0", "hold ka 4 1 100001", "hold ka 5 -1 5"), alike("throttle", "hold ka 6 1 1", "show ka"),
		pairs("tick 1", "ok 3"), alike("arg", "hold ka 1 1 1", "pack ka 6 0 1", "pack ka 7 1000000001 1", "pack ka 8 1 0", "pack ka 9 1 100001", "pack ka 10 -1 -1"), alike("none", "commit ka 11 1 1", "release ka 12 1", "commit ka 13 0 -1"), alike("throttle", "show ka"),
		pairs("tick 1", "ok 4"), pairs("hold ka 2 1 1", "arg", "hold ka 1 1 1", "stale", "release ka 1 1", "stale", "hold ka 9999999999 1000000000 100000", "quota", "hold ka 9999999999 1 1", "quota", "show ka", "ok 100 0 0"),
		pairs("pack kb 1 1000000000 100000", "ok 1000000010 0 2", "hold kb 2 1000000000 5", "ok 10 0 1000000000", "hold kb 3 11 5", "ok 0 0 10", "commit kb 4 3 12", "arg", "commit kb 5 3 -1", "arg", "commit kb 6 3 11", "ok 0 1 11", "commit kb 7 3 0", "none", "commit kb 8 2 0", "ok 1000000000 1 0", "release kb 9 2", "none", "hold kb 6 1 1", "ok 0 1 11", "show kb", "throttle"))
	many := pairs("tick 2", "ok 2")
	for n := range 12 {
		many = append(many, fmt.Sprintf("hold ka %d 1 %d", n+1, 20+n), fmt.Sprintf("ok %d 0 1", 99-n), "tick 1", fmt.Sprintf("ok %d", n+3))
	}
	scene(t, front, many, pairs("term a", "ok 1 0 10 0 12", "hold ka 20 1 9", "many", "hold ka 21 0 9", "arg", "hold ka 22 100 9", "many", "release ka 23 12", "ok 89 0 1", "hold ka 24 90 9", "quota", "hold ka 25 89 9", "ok 0 0 89", "hold ka 20 1 9", "many", "term a", "ok 1 0 10 0 12",
		"lots a", "ok 1:0:0:14400:100:0:100:0:0", "tick 100", "ok 114", "show ka", "ok 100 0 0", "term a", "ok 1 0 10 0 12", "lots a", "ok 1:0:0:14400:100:0:100:0:0", "hold ka 26 100 5", "ok 0 0 100", "term a", "ok 1 0 10 0 1"))
}

// TestP2202Tick: ticks go on by what the line says, up to the last one; none goes back.
func TestP2202Tick(t *testing.T) {
	scene(t, alike("arg", "tick -1", "tick -9999999999", "tick 4000000001", "tick 9999999999"), pairs("tick 0", "ok 0", "tick 5", "ok 5", "tick 0", "ok 5", "tick -1", "arg", "tick -5", "arg", "tick -6", "arg", "tick 3999999996", "arg", "tick 3999999995", "ok 4000000000",
		"tick 0", "ok 4000000000", "tick 1", "arg", "tick -1", "arg", "tick 4000000000", "arg", "crash", "ok", "tick 0", "ok 4000000000", "tick 1", "arg",
		"plan p 1 9 0 31 0 0 1 1", "ok 0 0 1", "tenant a k p 1", "ok 0 0 1", "date 2777777", "ok 9575 4 19", "date 2777788", "ok 9575 4 30", "term a", "ok 1 2777777 2777788 0 0", "close 1", "ok 0 1", "show k", "throttle"))
}

// TestP2202Date: the first and the last day that have a date, and those beside them.
func TestP2202Date(t *testing.T) {
	scene(t, pairs("date 0", "ok 1970 1 1", "date -1", "ok 1969 12 31", "date 1", "ok 1970 1 2", "date 11016", "ok 2000 2 29", "date 11017", "ok 2000 3 1", "date -719162", "ok 1 1 1", "date -719163", "arg", "date 2932896", "ok 9999 12 31", "date 2932897", "arg",
		"date 9999999999", "arg", "date -9999999999", "arg", "date 20776", "ok 2026 11 19", "date -25509", "ok 1900 2 28", "date -25508", "ok 1900 3 1"))
}

// TestP2202Next: by months and by days, at bounds of anchors and days, and by kinds that are none.
func TestP2202Next(t *testing.T) {
	scene(t, pairs("next 0 31 0 30", "ok 58", "next 0 31 0 58", "ok 89", "next 0 1 0 0", "ok 31", "next 0 1 -7 -1", "ok 0", "next 0 31 999 -1", "ok 30", "next 0 30 0 -719162", "ok -719133", "next 0 31 0 2932895", "ok 2932896", "next 0 31 0 2932896", "arg", "next 0 1 0 2932896", "arg"),
		pairs("next 1 0 1 0", "ok 1", "next 1 0 366 0", "ok 366", "next 1 99 30 5", "ok 35", "next 1 -1 1 -1", "ok 0", "next 1 0 1 2932895", "ok 2932896", "next 1 0 366 -719162", "ok -718796"),
		alike("arg", "next 0 0 5 0", "next 0 32 5 0", "next 0 -1 5 0", "next 0 1 0 -719163", "next 0 1 0 2932897", "next 0 1 0 9999999999", "next 1 5 0 0", "next 1 5 367 0", "next 1 5 -1 0", "next 1 0 1 2932896", "next 1 0 366 2932531", "next 1 0 1 -719163", "next 1 0 366 -719163"),
		alike("kind", "next 2 1 1 0", "next -1 1 1 0", "next 9999999999 1 1 0", "next 2 0 0 9999999999", "next -9999999999 99 999 -9999999999"))
}
