package acc_test

import (
	"math"
	"math/big"
	"slices"
	"testing"

	"anabranch/acc"
	"anabranch/api"
)

// orders yields the values in all orders.
func orders(all []int64, yield func([]int64)) {
	if len(all) == 0 {
		yield(nil)
	}
	for i, v := range all {
		rest := slices.Delete(slices.Clone(all), i, i+1)
		orders(rest, func(l []int64) { yield(append([]int64{v}, l...)) })
	}
}

// groupings returns what comes of aggregates, in their order, by each grouping.
func groupings(all []api.Acc) []api.Acc {
	if len(all) == 1 {
		return all
	}
	var out []api.Acc
	for i := 1; i < len(all); i++ {
		for _, a := range groupings(all[:i]) {
			for _, b := range groupings(all[i:]) {
				out = append(out, acc.Merge(a, b))
			}
		}
	}
	return out
}

// ones returns the aggregates of each value, and with them an empty one, there.
func ones(all []int64, place int) []api.Acc {
	var out []api.Acc
	for _, v := range all {
		out = append(out, acc.One(v))
	}
	return slices.Insert(out, place, api.Acc{})
}

// P5.3: in whatever order and grouping, with an empty one anywhere.
func TestOrders(t *testing.T) {
	for _, all := range [][]int64{
		{3},
		{4, -4},
		{math.MaxInt64, math.MaxInt64, math.MinInt64, 5},
		{math.MinInt64, math.MinInt64, math.MinInt64, math.MaxInt64},
		{-1, 1, -1, 0},
		{math.MaxInt64, 1, -1, math.MinInt64, -3},
	} {
		want := of(all...)
		orders(all, func(l []int64) {
			for i := range len(l) + 1 {
				for _, got := range groupings(ones(l, i)) {
					if got != want {
						t.Fatalf("%d, an empty one at %d: %+v, not %+v", l, i, got, want)
					}
				}
			}
		})
	}
}

// many returns the aggregate of one value, that many times.
func many(v int64, times int64) api.Acc {
	var all api.Acc
	for part := acc.One(v); times > 0; times /= 2 {
		if times%2 == 1 {
			all = acc.Merge(all, part)
		}
		part = acc.Merge(part, part)
	}
	return all
}

// P5.3: sums of up to 2^60 - 1 values are exact.
func TestManyAreExact(t *testing.T) {
	for _, v := range values {
		for _, times := range []int64{1, 2, 3, 1000, 1 << 33, 1<<59 + 1, 1<<60 - 1} {
			got := many(v, times)
			sum := new(big.Int).Mul(big.NewInt(v), big.NewInt(times))
			if sumOf(got).Cmp(sum) != 0 || got.N != times || got.Min != v || got.Max != v {
				t.Errorf("%d of %d: %+v, of which the sum is %s, not %s", times, v, got, sumOf(got), sum)
			}
		}
	}
}

// P5.3: great sums on both sides leave what is left of them.
func TestManyOfBothSigns(t *testing.T) {
	got := acc.Merge(many(math.MaxInt64, 1<<59-1), many(math.MinInt64, 1<<59-1))
	want := result{-(1<<59 - 1), true}
	if r := resultOf(got, api.AggSum); r != want {
		t.Errorf("%+v, not %+v", r, want)
	}
}

// P5.3, P1: one after the other, of all sizes.
func TestLong(t *testing.T) {
	var got api.Acc
	var all []int64
	v := int64(1)
	for range 300000 {
		v = v*6364136223846793005 + 1442695040888963407 // wraps, so that signs and sizes change
		all = append(all, v)
		got = acc.Merge(got, acc.One(v))
	}
	if want := of(all...); got != want {
		t.Errorf("%+v, not %+v", got, want)
	}
}
