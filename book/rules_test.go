package book_test

import (
	"fmt"
	"math/rand/v2"
	"reflect"
	"slices"
	"strings"
	"testing"
	"unsafe"

	"toll/api"
	"toll/book"
	"toll/rec"
)

// TestP1Wild: whatever texts, numbers and lists there are, each call ends and none panics; what may not be is refused.
func TestP1Wild(t *testing.T) {
	r := newRig(t, 512)
	r.put(small("a", 1))
	texts := []string{"", "\x00", "\xff\xfe", "\xed\xa0\x80", strings.Repeat("\xff", 5000), strings.Repeat("a", 1<<20), strings.Repeat(" ", 48), "%s%n", "a"}
	numbers := []int{-1 << 63, -1<<63 + 1, -1 << 40, -1, 0, 1, 1 << 40, 1 << 53, 1<<63 - 1}
	for _, name := range texts {
		for _, n := range numbers {
			r.b.Account(name)
			r.b.Last(name)
			r.b.Plan(name, n)
			r.b.Statement(name, n)
			p := version(name, n)
			r.addPlan(p)
			p = version("a", 1)
			p.Allowance, p.Rate, p.Kind = n, n, n
			r.addPlan(p)
			a := small(name, 1)
			a.Term, a.Over = n, n
			r.put(a)
			a = small("a", 1)
			a.Lots = append(slices.Repeat([]api.Lot{{Id: n, Granted: n, Held: n}}, 300), a.Lots...)
			a.Holds = []api.Hold{{Id: n, Parts: []api.Part{{Lot: n, N: n}}}}
			a.Window = []api.Entry{{Id: n, Answer: api.Answer{Err: api.Errno(n), Left: n, Statement: api.Statement{Name: name, Term: n}}}}
			r.put(a)
			r.close(a, api.Statement{Name: name, Term: n, Over: n}, book.Cursor{Time: n, Name: name})
			r.close(small("a", 1), api.Statement{Name: name, Term: n, To: n}, book.Cursor{})
			r.move(book.Cursor{On: true, Time: n, Name: name})
		}
	}
	r.shows()
	r.open()
}

// lent is a text whose bytes its owner may write over.
func lent(s string) (string, []byte) {
	b := []byte(s)
	return unsafe.String(unsafe.SliceData(b), len(b)), b
}

func overwrite(all ...[]byte) {
	for _, b := range all {
		for i := range b {
			b[i] = 'x'
		}
	}
}

// roomy is an account whose lists have spare room, filled, and whose texts can be written over.
func roomy(a api.Account) (api.Account, [][]byte) {
	var texts [4][]byte
	a.Name, texts[0] = lent(a.Name)
	a.Key, texts[1] = lent(a.Key)
	a.Plan.Name, texts[2] = lent(a.Plan.Name)
	a.Lots = withRoom(a.Lots, api.Lot{Id: 77})
	a.Window = withRoom(a.Window, api.Entry{Id: 77})
	a.Holds = withRoom(a.Holds, api.Hold{Id: 77})
	for i := range a.Holds {
		a.Holds[i].Parts = withRoom(a.Holds[i].Parts, api.Part{Lot: 77})
	}
	return a, texts[:]
}

func withRoom[T any](l []T, filled T) []T {
	room := append(slices.Clone(l), filled, filled, filled)
	return room[:len(l)]
}

// wipe writes over all that an account's lists have, their spare room too.
func wipe(a api.Account) {
	for _, h := range a.Holds {
		fillAll(h.Parts, api.Part{Lot: 5, N: 5})
	}
	fillAll(a.Lots, api.Lot{Id: 5, Granted: 5})
	fillAll(a.Holds, api.Hold{Id: 5})
	fillAll(a.Window, api.Entry{Id: 5})
}

func fillAll[T any](l []T, with T) {
	l = l[:cap(l)]
	for i := range l {
		l[i] = with
	}
}

// whole is all that an account has, in text, the spare room of its lists too.
func whole(a api.Account) string {
	var s strings.Builder
	fmt.Fprintf(&s, "%+v", a)
	fmt.Fprintf(&s, "%+v %+v %+v", a.Lots[:cap(a.Lots)], a.Holds[:cap(a.Holds)], a.Window[:cap(a.Window)])
	for _, h := range a.Holds {
		fmt.Fprintf(&s, "%+v", h.Parts[:cap(h.Parts)])
	}
	return s.String()
}

// TestP2HandedIn: what is handed in is neither changed nor kept.
func TestP2HandedIn(t *testing.T) {
	r := newRig(t, 512)
	for i, call := range []func(a api.Account) api.Errno{
		func(a api.Account) api.Errno { return r.b.Put(a) },
		func(a api.Account) api.Errno {
			name, b := lent("sss")
			at, c := lent("ccc")
			defer overwrite(b, c)
			return r.b.Close(a, stated(name, 1), book.Cursor{On: true, Time: 6, Name: at})
		},
	} {
		a, texts := roomy(great("anna", i))
		was := whole(a)
		if e := call(a); e != api.OK {
			t.Fatalf("P1702: %v", e)
		}
		if is := whole(a); is != was {
			t.Errorf("P2: what was handed in is %s, not %s", is, was)
		}
		overwrite(texts...)
		wipe(a)
		if got, is := r.b.Account("anna"); !is || !rec.SameAccount(got, great("anna", i)) {
			t.Errorf("P2: what was handed in is kept: %+v", got)
		}
	}
	if s, is := r.b.Statement("sss", 1); !is || s != stated("sss", 1) {
		t.Errorf("P2: the statement's name is kept: %+v", s)
	}
	if r.b.Cursor() != (book.Cursor{On: true, Time: 6, Name: "ccc"}) {
		t.Errorf("P2: the cursor's name is kept: %+v", r.b.Cursor())
	}
	name, b := lent("plan")
	r.b.AddPlan(version(name, 1))
	at, c := lent("mm")
	r.b.Move(book.Cursor{Name: at})
	overwrite(b, c)
	if p, is := r.b.Plan("plan", 1); !is || p != version("plan", 1) || r.b.Last("plan") != 1 || r.b.Last("xxxx") != 0 || r.b.Cursor().Name != "mm" {
		t.Errorf("P2: a name is kept: %+v, %+v", p, r.b.Cursor())
	}
}

// TestP2Asked: a name that is asked for is not kept.
func TestP2Asked(t *testing.T) {
	r := newRig(t, 512)
	r.close(great("aaa", 1), stated("aaa", 1), book.Cursor{})
	r.addPlan(version("aaa", 1))
	name, b := lent("aaa")
	a, _ := r.b.Account(name)
	p, _ := r.b.Plan(name, 1)
	s, _ := r.b.Statement(name, 1)
	r.b.Last(name)
	overwrite(b)
	if a.Name != "aaa" || p.Name != "aaa" || s.Name != "aaa" {
		t.Errorf("P2: what was answered has the text that was asked: %q, %q, %q", a.Name, p.Name, s.Name)
	}
	r.shows()
}

// TestP2Answered: what is answered is nobody else's, and no two of its lists share any room.
func TestP2Answered(t *testing.T) {
	r := newRig(t, 512)
	r.put(great("a", 1))
	r.put(mixed("b", 2))
	one, _ := r.b.Account("a")
	two, _ := r.b.Account("a")
	wipe(one)
	if !rec.SameAccount(two, great("a", 1)) {
		t.Error("P2: two answers share memory")
	}
	r.shows()
	names, others := r.b.Names(), r.b.Names()
	fillAll(names, "x")
	if !slices.Equal(others, []string{"a", "b"}) {
		t.Errorf("P2: two lists of names share memory: %q", others)
	}
	r.shows()
	apart, _ := r.b.Account("a")
	for i := range apart.Holds {
		fillAll(apart.Holds[i].Parts[len(apart.Holds[i].Parts):], api.Part{Lot: 9})
	}
	fillAll(apart.Lots[len(apart.Lots):], api.Lot{Id: 9})
	fillAll(apart.Holds[len(apart.Holds):], api.Hold{Id: 9})
	fillAll(apart.Window[len(apart.Window):], api.Entry{Id: 9})
	if !rec.SameAccount(apart, great("a", 1)) {
		t.Error("P2: lists of one answer share spare room")
	}
}

// TestP2Stays: an answer stays what it is, whatever is put behind it.
func TestP2Stays(t *testing.T) {
	r := newRig(t, 512)
	r.close(great("a", 1), stated("a", 1), book.Cursor{Name: "a"})
	a, _ := r.b.Account("a")
	names, c := r.b.Names(), r.b.Cursor()
	for i := range 10 {
		r.put(mixed("a", 50+i))
		r.put(small(fmt.Sprint(i), i))
		r.move(book.Cursor{Time: i})
	}
	if !rec.SameAccount(a, great("a", 1)) || !slices.Equal(names, []string{"a"}) || c.Name != "a" {
		t.Error("P2: an answer was changed behind it")
	}
}

// TestP2Empty: no list and an empty one are the same.
func TestP2Empty(t *testing.T) {
	r := newRig(t, 256)
	a := sized("a", 0, 0, 0, 0, 1)
	b := a
	b.Name, b.Lots, b.Holds, b.Window = "b", []api.Lot{}, []api.Hold{}, []api.Entry{}
	r.put(a)
	r.put(b)
	h := sized("c", 0, 2, 0, 0, 1)
	h.Holds[0].Parts = []api.Part{}
	r.put(h)
	r.shows()
}

// told are all answers of a script of calls on a new disk, and all blocks behind it.
func told(t *testing.T, seed uint64) []string {
	t.Helper()
	d := newDisk(t, 400)
	b := opened(t, d)
	r := rand.New(rand.NewPCG(seed, 9))
	var out []string
	for i := range 60 {
		name := goodNames[r.IntN(len(goodNames))]
		switch r.IntN(5) {
		case 0:
			out = append(out, b.Put(mixed(name, i)).Error())
		case 1:
			out = append(out, b.AddPlan(version(name, 1+r.IntN(3))).Error())
		case 2:
			out = append(out, b.Close(mixed(name, i), stated(name, r.IntN(5)), book.Cursor{On: true, Time: i, Name: name}).Error())
		case 3:
			out = append(out, b.Move(book.Cursor{Time: i - 9}).Error())
		case 4:
			a, is := b.Account(name)
			out = append(out, fmt.Sprint(a, is, b.Names(), b.Plans(), b.Last(name), b.Cursor(), b.Left(), b.Commits(), d.Writes()))
		}
	}
	for n := range d.Blocks() {
		block, _ := d.Read(n)
		out = append(out, string(block))
	}
	return out
}

// TestP3Again: the same calls in the same order answer the same, and write the same.
func TestP3Again(t *testing.T) {
	for seed := range uint64(10) {
		first := told(t, seed)
		told(t, seed+1000)
		if again := told(t, seed); !slices.Equal(first, again) {
			t.Fatalf("P3: of seed %d: not the same", seed)
		}
	}
}

// TestP4Zero: where there is nothing, nothing is answered beside it.
func TestP4Zero(t *testing.T) {
	r := newRig(t, 256)
	r.put(great("a", 1))
	if a, is := r.b.Account("b"); is || !reflect.DeepEqual(a, api.Account{}) {
		t.Errorf("P4: %+v", a)
	}
	if p, is := r.b.Plan("b", 1); is || p != (api.Plan{}) {
		t.Errorf("P4: %+v", p)
	}
	if s, is := r.b.Statement("b", 1); is || s != (api.Statement{}) {
		t.Errorf("P4: %+v", s)
	}
}

// TestP7Two: books on two disks do not see one another.
func TestP7Two(t *testing.T) {
	one, two := newRig(t, 512), newRig(t, 600)
	for i := range 20 {
		name := goodNames[i%5]
		one.put(mixed(name, i))
		two.shows()
		two.close(mixed(name, 100+i), stated(name, 1+i), book.Cursor{On: true, Time: i})
		one.shows()
		one.addPlan(version(name, 1+len(one.p.plans[name])))
		two.move(book.Cursor{Time: 9 * i})
	}
	kill(one.d)
	one.showsDead()
	two.put(small("alive", 1))
	two.shows()
	one.start()
	two.open()
}

// TestFace: a book has the calls of its face, and none that its store brings.
func TestFace(t *testing.T) {
	want := []string{"Account", "AddPlan", "Close", "Commits", "Cursor", "Last", "Left", "Move", "Names", "Plan", "Plans", "Put", "Statement"}
	var got []string
	for m := range reflect.TypeFor[*book.Book]().Methods() {
		got = append(got, m.Name)
	}
	slices.Sort(got)
	if !slices.Equal(got, want) {
		t.Errorf("P1701: the face is %q", got)
	}
}

// TestWaysOnce: the store is opened once.
func TestWaysOnce(t *testing.T) {
	d := newDisk(t, 256)
	b := opened(t, d)
	if !book.OpensOnce(b) {
		t.Error("Ways: the store is opened twice")
	}
	b.Put(small("a", 1))
	kill(d)
	if !book.OpensOnce(b) {
		t.Error("Ways: the store is opened again when the power is gone")
	}
}

// TestWaysPuts: what is put is counted: each record of a transaction that was answered OK, no other.
func TestWaysPuts(t *testing.T) {
	r := newRig(t, 256)
	want := int64(0)
	holds := func(more int64) {
		t.Helper()
		want += more
		if got := book.Puts(r.b); got != want {
			t.Errorf("Ways: %d records were put, not %d", got, want)
		}
	}
	holds(0)
	r.put(great("a", 1))
	holds(1)
	r.put(small("a", 1))
	holds(1)
	r.put(api.Account{})
	holds(0)
	r.addPlan(version("p", 1))
	holds(1)
	r.addPlan(version("p", 1))
	holds(0)
	r.close(small("a", 2), stated("a", 1), book.Cursor{})
	holds(3)
	r.close(small("a", 2), stated("a", 1), book.Cursor{})
	holds(0)
	r.move(book.Cursor{})
	holds(1)
	r.shows()
	holds(0)
	r.d.Cut(1)
	r.put(great("b", 1))
	holds(0)
}

// FuzzCalls makes the calls that the bytes say, and holds each answer against a plain book.
func FuzzCalls(f *testing.F) {
	f.Add([]byte{0, 0, 1, 0, 2, 3, 0, 1, 1, 5, 0, 4, 0, 0, 9, 3, 0})
	f.Add([]byte{3, 5, 200, 1, 201, 12, 1, 10, 0, 12, 3, 2, 200, 10, 0, 11, 3, 9, 1, 11, 40})
	for seed := range uint64(4) {
		b := make([]byte, 200)
		r := rand.New(rand.NewPCG(seed, 1))
		for i := range b {
			b[i] = byte(r.Uint32())
		}
		f.Add(b)
	}
	f.Fuzz(func(t *testing.T, b []byte) {
		if len(b) == 0 || len(b) > 1000 {
			return
		}
		r := newRig(t, []int{64, 160, 300, 4097}[b[0]%4])
		for b = b[1:]; len(b) >= 2; b = b[2:] {
			r.call(b[0], int(b[1]))
		}
		r.start()
	})
}

// call makes one call; where the power is gone, it starts it.
func (r *rig) call(kind byte, x int) {
	r.t.Helper()
	name := slices.Concat(goodNames, badNames[:2])[x%(len(goodNames)+2)]
	c := book.Cursor{On: x%2 == 0, Time: x - 2, Name: name}
	switch kind % 13 {
	case 0, 1:
		r.put(mixed(name, x+int(kind)<<8))
	case 2:
		r.put(great(name, x+int(kind)))
	case 3:
		r.put(small(name, x))
	case 4, 5:
		r.addPlan(version(name, x/64+len(r.p.plans[name])))
	case 6, 7:
		r.close(mixed(name, x), stated(name, int(kind)/13), c)
	case 8:
		r.move(c)
	case 9:
		r.d.Cut(x % 60)
	case 10:
		kill(r.d)
	case 11:
		r.open()
	case 12:
		r.shows()
	}
	if r.d.Dead() {
		r.gone = true
		r.showsDead()
		r.start()
	}
}
