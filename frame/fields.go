package frame

import (
	"toll/api"
)

// set is fields of a request, a bit each.
type set uint

// Those that not all kinds have, in the order of their bytes.
const (
	hasName set = 1 << iota
	hasSecret
	hasVersion // of the plan its Name and its Version, no more
	hasPlan    // all of it
	hasId
	hasOf
	hasN
	hasTTL
)

// fieldsOf tells which of them a kind has, and whether there is such a kind. A kind that has all that another one has says what it has besides.
func fieldsOf(kind int) (named set, is bool) {
	switch kind {
	case api.KHold, api.KPack:
		named |= hasId | hasN | hasTTL
	case api.KCommit:
		named |= hasN
		fallthrough
	case api.KRelease:
		named |= hasId | hasOf
	case api.KShow:
	case api.KPlan:
		named |= hasPlan
	case api.KTenant:
		named |= hasSecret
		fallthrough
	case api.KChange:
		named |= hasName | hasVersion
	case api.KTerms:
		named |= hasName
		fallthrough
	case api.KClose:
		named |= hasN
	default:
		return 0, false
	}
	return named, true
}

// carrier carries fields between a request and its bytes: a parser from the bytes, a writer to them. It answers each as it is then.
type carrier interface {
	kind(k int) int
	num(n int) int
	text(t string) string
	plan(p api.Plan) api.Plan
	refuse(e api.Errno)
}

// fields knows the order of a request's fields, for all carriers at once: so what was written is read as the same.
type fields struct{ carrier }

// request carries one, and answers it with no other fields than those that its bytes name.
func (f fields) request(r api.Request) api.Request {
	carried := api.Request{Kind: f.kind(r.Kind)}
	named, is := fieldsOf(carried.Kind)
	if !is {
		f.refuse(api.ErrKind)
		return carried
	}
	carried.Key = f.text(r.Key)
	if named&hasName != 0 {
		carried.Name = f.text(r.Name)
	}
	if named&hasSecret != 0 {
		carried.Secret = f.text(r.Secret)
	}
	if named&hasVersion != 0 {
		carried.Plan.Name = f.text(r.Plan.Name)
		carried.Plan.Version = f.num(r.Plan.Version)
	}
	if named&hasPlan != 0 {
		carried.Plan = f.plan(r.Plan)
	}
	if named&hasId != 0 {
		carried.Id = f.num(r.Id)
	}
	if named&hasOf != 0 {
		carried.Of = f.num(r.Of)
	}
	if named&hasN != 0 {
		carried.N = f.num(r.N)
	}
	if named&hasTTL != 0 {
		carried.TTL = f.num(r.TTL)
	}
	return carried
}

// keeper carries to no bytes: for requests that are held against each other, whose texts may be too long for any.
type keeper struct{}

func (keeper) kind(k int) int { return k }

func (keeper) num(n int) int { return n }

func (keeper) text(t string) string { return t }

func (keeper) plan(p api.Plan) api.Plan { return p }

func (keeper) refuse(api.Errno) {}
