package oper

import (
	"iter"
	"math"

	"anabranch/api"
)

// kind is a row of the table of kinds. What an operator takes is known to fit where its results are asked for.
type kind struct {
	class   int
	lastAgg int // aggregates from 0 to this one are allowed
	fits    func(a, b int64) bool
	results func(a, b int64, r api.Rec) iter.Seq[api.Rec]
}

// kinds returns the table of kinds.
func kinds() [api.LastOp + 1]kind {
	return [...]kind{
		api.OpMap:     {Stateless, 0, func(a, b int64) bool { return true }, mapped},
		api.OpKey:     {Stateless, 0, func(a, b int64) bool { return in(a, 1, math.MaxUint32) && in(b, 0, math.MaxUint32) }, keyed},
		api.OpFilter:  {Stateless, 0, func(a, b int64) bool { return isSize(a) && in(b, 0, a-1) }, filtered},
		api.OpFlat:    {Stateless, 0, func(a, b int64) bool { return in(a, 1, api.MaxCopies) }, copied},
		api.OpTumble:  {Window, api.LastAgg, isSizeAlone, same},
		api.OpSlide:   {Window, api.LastAgg, overlaps, same},
		api.OpSession: {Window, api.LastAgg, isSizeAlone, same},
		api.OpJoin:    {Joins, 0, isSizeAlone, same},
	}
}

// kindOf returns the row of an operator's kind; one that allows none, if there is no such kind.
func kindOf(op api.Op) kind {
	if !in(int64(op.Kind), 0, api.LastOp) {
		return kind{-1, 0, func(a, b int64) bool { return false }, same}
	}
	return kinds()[op.Kind]
}

// allows tells whether an operator of that kind is valid.
func (k kind) allows(op api.Op) bool {
	return in(int64(op.Agg), 0, int64(k.lastAgg)) && k.fits(op.A, op.B)
}

func in(n, least, most int64) bool { return least <= n && n <= most }

func isSize(a int64) bool { return in(a, 1, api.MaxSize) }

func isSizeAlone(a, b int64) bool { return isSize(a) && b == 0 }

// overlaps tells whether windows of size a, one beginning each b, are whole multiples, and not too many at a time.
func overlaps(a, b int64) bool {
	return isSize(a) && b >= 1 && a%b == 0 && a/b <= api.MaxOver
}

// The functions below yield the results of each kind.

func only(r api.Rec) iter.Seq[api.Rec] {
	return func(yield func(api.Rec) bool) { yield(r) }
}

func none(yield func(api.Rec) bool) {}

func same(a, b int64, r api.Rec) iter.Seq[api.Rec] { return only(r) }

func mapped(a, b int64, r api.Rec) iter.Seq[api.Rec] {
	r.Val = r.Val*a + b
	return only(r)
}

func keyed(a, b int64, r api.Rec) iter.Seq[api.Rec] {
	r.Key = r.Key%uint32(a) + uint32(b)
	return only(r)
}

// filtered adds a, because Go's remainder of a negative value is not positive.
func filtered(a, b int64, r api.Rec) iter.Seq[api.Rec] {
	if (r.Val%a+a)%a != b {
		return none
	}
	return only(r)
}

func copied(a, b int64, r api.Rec) iter.Seq[api.Rec] {
	return func(yield func(api.Rec) bool) {
		for i := range a {
			x := r
			x.Val += i * b
			if !yield(x) {
				return
			}
		}
	}
}
