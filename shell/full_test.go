package shell_test

import (
	"fmt"
	"strings"
	"testing"

	"toll/api"
	"toll/disk"
	"toll/server"
	"toll/shell"
)

// closer is a server of the test's own that a script's closings are done on one by one.
type closer struct {
	t *testing.T
	s *server.Server
}

func (c closer) does(r api.Request) api.Answer {
	c.t.Helper()
	x, e := c.s.Do(r)
	if e != api.OK {
		c.t.Fatalf("P2002: Do: %v", e)
	}
	return x
}

// closes is what `close 100` is answered, where there is more to close than the disk has room for.
func (c closer) closes() string {
	c.t.Helper()
	for n := range 100 {
		x := c.does(api.Request{Kind: api.KClose, Key: "root", N: 1})
		if x.Err != api.OK && n == 0 {
			return x.Err.Error()
		}
		if x.Err != api.OK {
			return fmt.Sprintf("ok %d 0", n)
		}
	}
	return "ok 100 0"
}

// fills is a script that fills the disk by statements, and what it is answered.
func fills(t *testing.T) (string, string) {
	t.Helper()
	d, e := disk.New(4096)
	if e != api.OK {
		t.Fatalf("P201: %v", e)
	}
	s, e := server.Open(d, "root", 0)
	if e != api.OK {
		t.Fatalf("P2001: %v", e)
	}
	c := closer{t, s}
	short, long := api.Plan{Name: "p", Version: 1, Allowance: 1, Kind: 1, Days: 1, Burst: 1, Rate: 1}, api.Plan{Name: "q", Version: 1, Allowance: 9, Kind: 1, Days: 366, Burst: 99, Rate: 99}
	c.does(adds(short))
	c.does(adds(long))
	c.does(api.Request{Kind: api.KTenant, Key: "root", Name: "a", Secret: "ka", Plan: short})
	s.Tick(17280000)
	c.does(api.Request{Kind: api.KTenant, Key: "root", Name: "b", Secret: "kb", Plan: long})
	s.Tick(17280001)
	c.does(api.Request{Kind: api.KHold, Key: "kb", Id: 5, N: 4, TTL: 300})
	script := "plan p 1 1 1 1 0 0 1 1\nplan q 1 9 1 366 0 0 99 99\ntenant a ka p 1\ntick 17280000\ntenant b kb q 1\ntick 1\nhold kb 5 4 300\n" + strings.Repeat("close 100\n", 120)
	want := "ok 0 0 1\nok 0 0 1\nok 0 0 1\nok 17280000\nok 0 0 1\nok 17280001\nok 5 0 4\n"
	for range 120 {
		want += c.closes() + "\n"
	}
	if s.Left() >= api.TxnPageBound || !strings.HasSuffix(want, "full\nfull\n") {
		t.Fatalf("the disk has %d pages left", s.Left())
	}
	return script, want
}

// TestP2202DiskFull: on a disk that is full what would be recorded is answered full, behind all other errors; all else goes on.
func TestP2202DiskFull(t *testing.T) {
	script, want := fills(t)
	rest := pairs("close 1", "full", "close 0", "arg", "plan q 2 9 1 366 0 0 99 99", "full", "plan r 1 9 1 366 0 0 99 99", "full", "plan q 1 9 1 366 0 0 99 99", "is", "plan q 3 9 1 366 0 0 99 99", "arg", "plan r 1 9 1 0 0 0 99 99", "arg",
		"tenant c kc q 1", "full", "tenant c kc q 1", "full", "tenant C kc q 1", "arg", "tenant b kc q 1", "is", "tenant c kc q 2", "none", "show kc", "auth", "change b p 1", "full", "change b q 2", "none", "change a q 1", "over", "change b q 1", "full",
		"hold kb 6 1 1", "full", "hold kb 6 1 1", "full", "hold kb 6 0 1", "full", "hold kb 6 99 1", "full", "hold kb 0 1 1", "arg", "hold kb 5 4 300", "ok 5 0 4", "commit kb 7 5 4", "full", "commit kb 7 9 4", "full", "release kb 8 5", "full", "pack kb 9 1 1", "full", "show kb", "ok 5 0 0",
		"lots b", "ok 1:0:17280000:17807040:9:0:4:0:0", "term b", "ok 1 12000 12366 0 1", "term c", "none", "terms a 1", "ok 0 1 1 0 1 0 0", "crash", "ok", "tick 300", "ok 17280301", "hold kb 6 1 1", "full", "hold kb 5 1 1", "ok 5 0 4", "show kb", "ok 9 0 0", "close 100", "full", "date 0", "ok 1970 1 1")
	for i := 0; i < len(rest); i += 2 {
		script += rest[i] + "\n"
		want += rest[i+1] + "\n"
	}
	isAlike(t, script, shell.Run(script), want)
}
