package oper_test

import (
	"slices"
	"testing"

	"anabranch/api"
	"anabranch/oper"
	"anabranch/samples"
)

// few are operators of each kind, and some that leave records as they are.
var few = []api.Op{
	{Kind: api.OpMap, A: -2, B: 3},
	{Kind: api.OpKey, A: 5, B: 1<<32 - 2},
	{Kind: api.OpFilter, A: 2, B: 1},
	{Kind: api.OpFlat, A: 3, B: 5},
	{Kind: api.OpFlat, A: 2, B: -1},
	{Kind: api.OpFlat, A: 4, B: 1},
	{Kind: api.OpSlide, A: 4, B: 2, Agg: 1},
	{Kind: 8, A: 1},
}

// each returns the results of f for each record, in order.
func each(l []api.Rec, f func(api.Rec) []api.Rec) []api.Rec {
	var all []api.Rec
	for _, x := range l {
		all = append(all, f(x)...)
	}
	return all
}

// some are records to go through lists.
func some() []api.Rec { return records([]int64{-3, 4, 0, 9}) }

// P4.2: operator by operator, in order.
func TestApplyLists(t *testing.T) {
	for _, ops := range samples.Lists(few, 4) {
		for _, x := range some() {
			want := []api.Rec{x}
			for _, op := range ops {
				want = each(want, func(x api.Rec) []api.Rec { return resultsOf(op, x) })
			}
			if got := oper.Apply(ops, x); !slices.Equal(got, want) {
				t.Fatalf("%+v of %+v: %+v, not %+v", ops, x, got, want)
			}
		}
	}
}

// P4.3: two lists, one after the other.
func TestApplyTwoLists(t *testing.T) {
	all := samples.Lists(few, 2)
	for _, first := range all {
		for _, second := range all {
			for _, x := range some() {
				got := oper.Apply(slices.Concat(first, second), x)
				want := each(oper.Apply(first, x), func(x api.Rec) []api.Rec { return oper.Apply(second, x) })
				if !slices.Equal(got, want) {
					t.Fatalf("%+v, then %+v, of %+v: %+v, not %+v", first, second, x, got, want)
				}
			}
		}
	}
}

// P4.3: Times and Sides stay, so do Err and Late; there are no more records than the valid Flats make.
func TestApplyKeepsTheRest(t *testing.T) {
	for _, ops := range samples.Lists(few, 4) {
		most := 1
		for _, op := range ops {
			if op.Kind == api.OpFlat && op.A <= 3 {
				most *= int(op.A)
			}
		}
		for _, x := range some() {
			got := oper.Apply(ops, x)
			if len(got) > most {
				t.Fatalf("%+v of %+v: %d records, not at most %d", ops, x, len(got), most)
			}
			for _, y := range got {
				if y.Time != x.Time || y.Side != x.Side || y.Err != x.Err || y.Late != x.Late {
					t.Fatalf("%+v of %+v: %+v", ops, x, y)
				}
			}
		}
	}
}

// P4.2, P1: long lists, and many results, in order.
func TestApplyLong(t *testing.T) {
	long := slices.Repeat([]api.Op{{Kind: api.OpMap, A: 1, B: 1}, {Kind: api.OpTumble, A: 1}}, 500000)
	if got := oper.Apply(long, api.Rec{Val: -1}); !slices.Equal(got, []api.Rec{{Val: 499999}}) {
		t.Error(got)
	}
	var flats []api.Op
	for b := int64(59049); b > 0; b /= 3 {
		flats = append(flats, api.Op{Kind: api.OpFlat, A: 3, B: b})
	}
	got := oper.Apply(flats, api.Rec{})
	if len(got) != 177147 {
		t.Fatal(len(got))
	}
	for i, x := range got {
		if x != (api.Rec{Val: int64(i)}) {
			t.Fatal(i, x)
		}
	}
}
