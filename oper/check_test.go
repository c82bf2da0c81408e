package oper_test

import (
	"math"
	"testing"

	"anabranch/api"
	"anabranch/oper"
	"anabranch/samples"
)

// allowed are valid operators, at the edges of each kind's row.
var allowed = []api.Op{
	{Kind: api.OpMap},
	{Kind: api.OpMap, A: math.MinInt64, B: math.MaxInt64},
	{Kind: api.OpMap, A: math.MaxInt64, B: math.MinInt64},
	{Kind: api.OpKey, A: 1, B: 0},
	{Kind: api.OpKey, A: 1<<32 - 1, B: 1<<32 - 1},
	{Kind: api.OpKey, A: 5, B: 9},
	{Kind: api.OpFilter, A: 1, B: 0},
	{Kind: api.OpFilter, A: 4, B: 3},
	{Kind: api.OpFilter, A: 1 << 30, B: 1<<30 - 1},
	{Kind: api.OpFlat, A: 1},
	{Kind: api.OpFlat, A: 3, B: math.MinInt64},
	{Kind: api.OpFlat, A: 2, B: math.MaxInt64},
	{Kind: api.OpTumble, A: 1},
	{Kind: api.OpTumble, A: 1 << 30, Agg: api.AggMax},
	{Kind: api.OpTumble, A: 7, Agg: api.AggSum},
	{Kind: api.OpSlide, A: 1, B: 1},
	{Kind: api.OpSlide, A: 4, B: 1, Agg: api.AggMin},
	{Kind: api.OpSlide, A: 12, B: 3, Agg: api.AggMax},
	{Kind: api.OpSlide, A: 1 << 30, B: 1 << 30},
	{Kind: api.OpSlide, A: 1 << 30, B: 1 << 28},
	{Kind: api.OpSession, A: 1},
	{Kind: api.OpSession, A: 1 << 30, Agg: api.AggMax},
	{Kind: api.OpJoin, A: 1},
	{Kind: api.OpJoin, A: 1 << 30},
}

// refused are operators of which one part is beyond an edge.
var refused = []api.Op{
	{Kind: api.OpMap, Agg: 1},
	{Kind: api.OpMap, A: 2, Agg: -1},
	{Kind: api.OpMap, A: 2, Agg: math.MaxInt},
	{Kind: api.OpKey},
	{Kind: api.OpKey, A: -1},
	{Kind: api.OpKey, A: 1 << 32},
	{Kind: api.OpKey, A: 1<<32 + 1},
	{Kind: api.OpKey, A: 1, B: -1},
	{Kind: api.OpKey, A: 1, B: 1 << 32},
	{Kind: api.OpKey, A: 1, Agg: 1},
	{Kind: api.OpFilter},
	{Kind: api.OpFilter, A: -4, B: -5},
	{Kind: api.OpFilter, A: math.MinInt64, B: 0},
	{Kind: api.OpFilter, A: 4, B: 4},
	{Kind: api.OpFilter, A: 4, B: -1},
	{Kind: api.OpFilter, A: 1<<30 + 1, B: 1},
	{Kind: api.OpFilter, A: 4, B: 1, Agg: 1},
	{Kind: api.OpFlat},
	{Kind: api.OpFlat, A: -1},
	{Kind: api.OpFlat, A: 4},
	{Kind: api.OpFlat, A: 2, Agg: 1},
	{Kind: api.OpTumble},
	{Kind: api.OpTumble, A: -1},
	{Kind: api.OpTumble, A: 1<<30 + 1},
	{Kind: api.OpTumble, A: 1, B: 1},
	{Kind: api.OpTumble, A: 1, B: -1},
	{Kind: api.OpTumble, A: 1, Agg: 4},
	{Kind: api.OpTumble, A: 1, Agg: -1},
	{Kind: api.OpSlide, A: 1},
	{Kind: api.OpSlide, A: 0, B: 0},
	{Kind: api.OpSlide, A: 0, B: 1},
	{Kind: api.OpSlide, A: 5, B: 1},
	{Kind: api.OpSlide, A: 15, B: 3},
	{Kind: api.OpSlide, A: 7, B: 2},
	{Kind: api.OpSlide, A: 3, B: 6},
	{Kind: api.OpSlide, A: 4, B: -2},
	{Kind: api.OpSlide, A: -4, B: -2},
	{Kind: api.OpSlide, A: 1<<30 + 4, B: 1<<28 + 1},
	{Kind: api.OpSlide, A: 1 << 31, B: 1 << 30},
	{Kind: api.OpSlide, A: math.MinInt64, B: -1},
	{Kind: api.OpSlide, A: 4, B: 1 << 62},
	{Kind: api.OpSlide, A: 4, B: 2, Agg: 4},
	{Kind: api.OpSlide, A: 4, B: 2, Agg: -1},
	{Kind: api.OpSession},
	{Kind: api.OpSession, A: 1<<30 + 1},
	{Kind: api.OpSession, A: 1, B: 1},
	{Kind: api.OpSession, A: 1, Agg: 4},
	{Kind: api.OpJoin},
	{Kind: api.OpJoin, A: 1<<30 + 1},
	{Kind: api.OpJoin, A: 1, B: 1},
	{Kind: api.OpJoin, A: 1, Agg: 1},
	{Kind: api.OpJoin, A: 1, Agg: -1},
	{Kind: -1, A: 1},
	{Kind: 8, A: 1},
	{Kind: math.MinInt, A: 1},
	{Kind: math.MaxInt, A: 1},
}

// P4.1: the edges of each row.
func TestCheckEdges(t *testing.T) {
	for _, op := range allowed {
		if e := oper.Check(op); e != api.OK {
			t.Errorf("%+v: %d", op, int(e))
		}
	}
	for _, op := range refused {
		if e := oper.Check(op); e != api.ErrOp {
			t.Errorf("%+v: %d", op, int(e))
		}
	}
}

// span is from a number to another one, both included.
type span struct{ least, most int64 }

func (s span) has(n int64) bool { return s.least <= n && n <= s.most }

// table returns the spans of A, B and Agg of a valid operator of that kind, as the chapter has them; what Slide requires beside is not among them.
func table(op api.Op) [3]span {
	whole, size, zero, aggs := span{math.MinInt64, math.MaxInt64}, span{1, 1 << 30}, span{}, span{0, 3}
	switch op.Kind {
	case 0:
		return [3]span{whole, whole, zero}
	case 1:
		return [3]span{{1, 1<<32 - 1}, {0, 1<<32 - 1}, zero}
	case 2:
		return [3]span{size, {0, max(op.A, 0) - 1}, zero}
	case 3:
		return [3]span{{1, 3}, whole, zero}
	case 4, 6:
		return [3]span{size, zero, aggs}
	case 5:
		return [3]span{size, {1, math.MaxInt64}, aggs}
	case 7:
		return [3]span{size, zero, zero}
	}
	return [3]span{{0, -1}, whole, whole}
}

// isValid tells whether an operator is valid, by the table.
func isValid(op api.Op) bool {
	s := table(op)
	if !s[0].has(op.A) || !s[1].has(op.B) || !s[2].has(int64(op.Agg)) {
		return false
	}
	for times := int64(1); op.Kind == 5 && times <= 4; times++ {
		if op.B <= 1<<30 && op.A == times*op.B {
			return true
		}
	}
	return op.Kind != 5
}

// P4.1: any operator, by the table.
func TestCheckByTheTable(t *testing.T) {
	for _, numbers := range [][]int64{samples.Edges(), samples.Small()} {
		for op := range samples.EveryOp(numbers) {
			want := api.ErrOp
			if isValid(op) {
				want = api.OK
			}
			if e := oper.Check(op); e != want {
				t.Fatalf("%+v: %d, not %d", op, int(e), int(want))
			}
		}
	}
}

// P4.1: a class is that of the kind, whatever else the operator has.
func TestClass(t *testing.T) {
	if oper.Stateless != 0 || oper.Window != 1 || oper.Joins != 2 {
		t.Error(oper.Stateless, oper.Window, oper.Joins)
	}
	classes := map[int]int{
		api.OpMap: 0, api.OpKey: 0, api.OpFilter: 0, api.OpFlat: 0,
		api.OpTumble: 1, api.OpSlide: 1, api.OpSession: 1, api.OpJoin: 2,
	}
	for op := range samples.EveryOp(samples.Edges()) {
		want, is := classes[op.Kind]
		if !is {
			want = -1
		}
		if got := oper.Class(op); got != want {
			t.Fatalf("%+v: %d, not %d", op, got, want)
		}
	}
}
