package shell

import (
	"strconv"
	"strings"

	"toll/api"
	"toll/disk"
	"toll/server"
)

const (
	admin     = "root"
	blocks    = 4096
	maxDigits = 10 // of a number
)

// play is a script's own: nothing else is kept, so nothing of it is left in the next one.
type play struct {
	disk     *disk.Disk
	server   *server.Server
	commands map[string]command // by their names
}

// command is what its line must have behind the name, n or T for each word, and what is done with that.
type command struct {
	form string
	do   func(args) string
}

// args are a line's words behind the name, numbers apart from texts, each in their order.
type args struct {
	texts   []string
	numbers []int
}

// newPlay answers a play whose server is new. A new disk of so many blocks, a name and a tick are refused by none.
func newPlay() *play {
	d, _ := disk.New(blocks)
	s, _ := server.Open(d, admin, 0)
	p := &play{disk: d, server: s}
	p.commands = map[string]command{
		"plan":    {"Tnnnnnnnn", p.plan},
		"tenant":  {"TTTn", p.tenant},
		"change":  {"TTn", p.change},
		"close":   {"n", p.closeTerms},
		"terms":   {"Tn", p.terms},
		"hold":    {"Tnnn", p.hold},
		"commit":  {"Tnnn", p.commit},
		"release": {"Tnn", p.release},
		"pack":    {"Tnnn", p.pack},
		"show":    {"T", p.show},
		"tick":    {"n", p.tick},
		"lots":    {"T", p.lots},
		"term":    {"T", p.term},
		"crash":   {"", p.crash},
		"date":    {"n", p.date},
		"next":    {"nnnn", p.next},
	}
	return p
}

// read takes words as a form asks for them, as many.
func read(form string, words []string) (args, bool) {
	if len(words) != len(form) {
		return args{}, false
	}
	var a args
	for i, w := range words {
		if form[i] == 'T' {
			a.texts = append(a.texts, w)
			continue
		}
		n, is := number(w)
		if !is {
			return args{}, false
		}
		a.numbers = append(a.numbers, n)
	}
	return a, true
}

// number reads a word that is a number as numbers are written: so there is no nought ahead, no +, no -0.
func number(word string) (int, bool) {
	n, err := strconv.Atoi(word)
	if err != nil || strconv.Itoa(n) != word || len(strings.TrimPrefix(word, "-")) > maxDigits {
		return 0, false
	}
	return n, true
}

// ok is the answer to what was done, with its numbers.
func ok(numbers ...int) string {
	return strings.Join(append([]string{api.OK.Error()}, written(numbers)...), " ")
}

func written(numbers []int) []string {
	var words []string
	for _, n := range numbers {
		words = append(words, strconv.Itoa(n))
	}
	return words
}
