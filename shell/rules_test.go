package shell_test

import (
	"strings"
	"testing"
	"unsafe"

	"toll/shell"
)

// lent is a text whose bytes their owner may write over.
func lent(b []byte) string { return unsafe.String(unsafe.SliceData(b), len(b)) }

// TestP1Wild: scripts of bytes that are nobody's, and of good lines in which some are changed, are played to their end.
func TestP1Wild(t *testing.T) {
	good := []byte(stage + strings.Join(tale, "\n"))
	for seed := range 200 {
		d := thrown(3000, uint64(seed)*7919+1)
		runs(t, string(d[:d.roll(256)*8]))
		b := append([]byte{}, good...)
		for range 1 + d.roll(40) {
			b[(d.roll(256)*256+d.roll(256))%len(b)] = pick(&d, byte(d.roll(256)), '"', '\\', ' ', '\n', '0', '-', '#', '9', '\t')
		}
		runs(t, string(b))
	}
}

// TestP2Run: a script is not changed and not kept; its answer stays when the script's bytes are written over.
func TestP2Run(t *testing.T) {
	was := stage + strings.Join(tale, "\n")
	b := []byte(was)
	got := shell.Run(lent(b))
	if string(b) != was {
		t.Fatalf("P2: Run changed its script")
	}
	for i := range b {
		b[i] = 'x'
	}
	want, _ := played(was)
	isAlike(t, was, got, want)
	_, s := shell.Played(was)
	b = []byte(was)
	_, kept := shell.Played(lent(b))
	for i := range b {
		b[i] = 'x'
	}
	for _, name := range s.Names() {
		a, _ := s.Account(name)
		k, is := kept.Account(name)
		if !is || a.Key != k.Key || a.Plan != k.Plan || a.Next != k.Next {
			t.Errorf("P2: %+v, not %+v", k, a)
		}
	}
}

// TestP3: what a script is answered hangs on it alone.
func TestP3(t *testing.T) {
	script := stage + strings.Join(tale, "\n")
	first := shell.Run(script)
	for range 20 {
		if got := shell.Run(script); got != first {
			t.Fatalf("P3: %q, not %q", got, first)
		}
	}
}
