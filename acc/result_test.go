package acc_test

import (
	"math"
	"testing"

	"anabranch/acc"
	"anabranch/api"
)

// result is a result, and whether there is one.
type result struct {
	v  int64
	is bool
}

func resultOf(a api.Acc, agg int) result {
	v, is := acc.Result(a, agg)
	return result{v, is}
}

// P5.2: the examples.
func TestResultExamples(t *testing.T) {
	both := acc.Merge(acc.One(7), acc.One(-1))
	great := acc.Merge(acc.One(math.MaxInt64), acc.One(1))
	for _, c := range []struct {
		of   api.Acc
		agg  int
		want result
	}{
		{both, api.AggCount, result{2, true}},
		{both, api.AggSum, result{6, true}},
		{both, api.AggMin, result{-1, true}},
		{both, api.AggMax, result{7, true}},
		{great, api.AggSum, result{0, false}},
		{great, api.AggCount, result{2, true}},
		{great, api.AggMin, result{1, true}},
		{great, api.AggMax, result{math.MaxInt64, true}},
		{acc.Merge(great, acc.One(-1)), api.AggSum, result{math.MaxInt64, true}},
		{api.Acc{}, api.AggCount, result{0, true}},
		{api.Acc{}, api.AggSum, result{0, true}},
		{api.Acc{}, api.AggMin, result{0, true}},
		{api.Acc{}, api.AggMax, result{0, true}},
	} {
		if got := resultOf(c.of, c.agg); got != c.want {
			t.Errorf("%d of %+v: %+v, not %+v", c.agg, c.of, got, c.want)
		}
	}
}

// P5.2: where the sums end that are int64s.
func TestResultSumEdges(t *testing.T) {
	for _, c := range []struct {
		hi   int64
		lo   uint64
		want result
	}{
		{0, math.MaxInt64, result{math.MaxInt64, true}},
		{0, 1 << 63, result{}},
		{0, math.MaxUint64, result{}},
		{1, 0, result{}},
		{1, 5, result{}},
		{math.MaxInt64, math.MaxUint64, result{}},
		{-1, 1 << 63, result{math.MinInt64, true}},
		{-1, 1<<63 - 1, result{}},
		{-1, 0, result{}},
		{-1, math.MaxUint64, result{-1, true}},
		{-2, math.MaxUint64, result{}},
		{math.MinInt64, 0, result{}},
	} {
		if got := resultOf(api.Acc{N: 3, Hi: c.hi, Lo: c.lo}, api.AggSum); got != c.want {
			t.Errorf("%d, %d: %+v, not %+v", c.hi, c.lo, got, c.want)
		}
	}
}

// wanted returns a result, as the chapter says.
func wanted(a api.Acc, agg int) result {
	sum := sumOf(a)
	switch {
	case agg == 0:
		return result{a.N, true}
	case agg == 1 && sum.IsInt64():
		return result{sum.Int64(), true}
	case agg == 2:
		return result{a.Min, true}
	case agg == 3:
		return result{a.Max, true}
	}
	return result{}
}

// P5.2, P1: any aggregate, and any kind, those that there are not too.
func TestResultAny(t *testing.T) {
	kinds := []int{0, 1, 2, 3, 4, 5, 255, 256, 257, 1 << 32, 1<<32 + 1, math.MaxInt, -1, -2, -255, math.MinInt, math.MinInt + 1}
	for _, a := range some() {
		for _, agg := range kinds {
			if got, want := resultOf(a, agg), wanted(a, agg); got != want {
				t.Fatalf("%d of %+v: %+v, not %+v", agg, a, got, want)
			}
		}
	}
}
