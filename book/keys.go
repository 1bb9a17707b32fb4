package book

import (
	"strings"

	"toll/rec"
)

// A key: a byte that tells what it is of, a name, a mark, a number. There is but one cursor: its key is its byte.
const (
	ofAccounts   = "a"
	ofCursor     = "c"
	ofPlans      = "p"
	ofStatements = "s"
)

// The mark is ahead of all that a name may have, so keys are in the order of their names, whichever is longer.
const (
	mark        = " "
	behindMark  = "!"
	behindNames = "~"
)

// mostVersion is the last one that plan.Check allows.
const mostVersion = 1000000

// pieceKey is short, as an account has many: two digits do for all pieces of the longest one.
func pieceKey(name string, piece int) string {
	digits := rec.Number(piece)
	return ofAccounts + name + mark + digits[len(digits)-2:]
}

// planKey has the later versions first, as the last one is asked for.
func planKey(name string, version int) string {
	return ofPlans + name + mark + rec.Number(mostVersion-version)
}

func statementKey(name string, term int) string {
	return ofStatements + name + mark + rec.Number(term)
}

// span tells where the keys of a name begin, and where they are over.
func span(of, name string) (string, string) {
	return of + name + mark, of + name + behindMark
}

func nameIn(key string) string {
	name, _, _ := strings.Cut(key[1:], mark)
	return strings.Clone(name)
}
