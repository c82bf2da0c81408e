package oper_test

import (
	"math"
	"math/big"
	"slices"
	"testing"

	"anabranch/api"
	"anabranch/oper"
	"anabranch/samples"
)

// r is the record of the chapter's examples.
var r = api.Rec{Key: 7, Time: 5, Val: -3}

// with returns r with these values, one record each.
func with(values ...int64) []api.Rec {
	var all []api.Rec
	for _, v := range values {
		x := r
		x.Val = v
		all = append(all, x)
	}
	return all
}

func anErr(x api.Rec) api.Rec {
	x.Err = true
	return x
}

func aLate(x api.Rec) api.Rec {
	x.Late = true
	return x
}

// examples are the chapter's, and others.
var examples = []struct {
	ops  []api.Op
	of   api.Rec
	want []api.Rec
}{
	{[]api.Op{{Kind: api.OpMap, A: 2, B: 10}}, r, with(4)},
	{[]api.Op{{Kind: api.OpKey, A: 4, B: 9}}, r, []api.Rec{{Key: 12, Time: 5, Val: -3}}},
	{[]api.Op{{Kind: api.OpFilter, A: 4, B: 1}}, r, with(-3)},
	{[]api.Op{{Kind: api.OpFilter, A: 4, B: 3}}, r, nil},
	{[]api.Op{{Kind: api.OpFlat, A: 3, B: 5}}, r, with(-3, 2, 7)},
	{[]api.Op{{Kind: api.OpFlat, A: 2, B: 1}, {Kind: api.OpFilter, A: 2, B: 0}}, r, with(-2)},
	{[]api.Op{{Kind: api.OpTumble, A: 4}}, r, with(-3)},
	{[]api.Op{{Kind: api.OpMap, A: 2, B: 10}}, anErr(r), []api.Rec{anErr(r)}},
	{[]api.Op{{Kind: api.OpMap, A: 2, B: 10}}, aLate(r), []api.Rec{aLate(r)}},
	{nil, r, with(-3)},
	{[]api.Op{}, anErr(r), []api.Rec{anErr(r)}},
	{[]api.Op{{Kind: api.OpFilter, A: 4, B: 3}}, anErr(r), []api.Rec{anErr(r)}},                                      // not dropped
	{[]api.Op{{Kind: api.OpFlat, A: 3, B: 5}}, aLate(r), []api.Rec{aLate(r)}},                                        // not copied
	{[]api.Op{{Kind: api.OpFlat, A: 4, B: 5}}, r, with(-3)},                                                          // not valid
	{[]api.Op{{Kind: api.OpFilter, A: 0, B: 0}}, r, with(-3)},                                                        // not valid: no modulo 0
	{[]api.Op{{Kind: api.OpFilter, A: 4, B: 3, Agg: 1}}, r, with(-3)},                                                // not valid
	{[]api.Op{{Kind: api.OpMap, A: 2, B: 10, Agg: 1}}, r, with(-3)},                                                  // not valid
	{[]api.Op{{Kind: 8, A: 2, B: 10}, {Kind: -1}, {Kind: api.OpMap, A: 1, B: 1}}, r, with(-2)},                       // the others are applied
	{[]api.Op{{Kind: api.OpSlide, A: 4, B: 2}, {Kind: api.OpSession, A: 4}, {Kind: api.OpJoin, A: 4}}, r, with(-3)},  // none has results of its own
	{[]api.Op{{Kind: api.OpFilter, A: 4, B: 3}, {Kind: api.OpFlat, A: 3}}, r, nil},                                   // nothing stays nothing
	{[]api.Op{{Kind: api.OpMap, A: 2, B: 10}, {Kind: api.OpFlat, A: 2, B: 1}}, r, with(4, 5)},                        // in the list's order
	{[]api.Op{{Kind: api.OpFlat, A: 2, B: 1}, {Kind: api.OpMap, A: 2, B: 10}}, r, with(4, 6)},                        // the other one
	{[]api.Op{{Kind: api.OpFlat, A: 2, B: 100}, {Kind: api.OpFlat, A: 3, B: 1}}, r, with(-3, -2, -1, 97, 98, 99)},    // of the first one all, then of the second one
	{[]api.Op{{Kind: api.OpFlat, A: 3, B: 0}}, r, with(-3, -3, -3)},                                                  // equal ones too
	{[]api.Op{{Kind: api.OpFlat, A: 3, B: math.MaxInt64}}, r, with(-3, math.MaxInt64-3, -5)},                         // int64s wrap
	{[]api.Op{{Kind: api.OpMap, A: math.MinInt64, B: math.MinInt64}}, r, with(0)},                                    // the same
	{[]api.Op{{Kind: api.OpKey, A: 8, B: 1<<32 - 7}}, r, []api.Rec{{Key: 0, Time: 5, Val: -3}}},                      // modulo 2^32
	{[]api.Op{{Kind: api.OpKey, A: 1<<32 - 1, B: 1<<32 - 1}}, api.Rec{Key: 1<<32 - 2}, []api.Rec{{Key: 1<<32 - 3}}},  // the same
	{[]api.Op{{Kind: api.OpKey, A: 1<<32 - 1}}, api.Rec{Key: 1<<32 - 1, Side: 200}, []api.Rec{{Key: 0, Side: 200}}},  // Side as it was
	{[]api.Op{{Kind: api.OpFilter, A: 1 << 30, B: 0}}, api.Rec{Val: math.MinInt64}, []api.Rec{{Val: math.MinInt64}}}, // the least value
}

// P4.2: the examples.
func TestApplyExamples(t *testing.T) {
	for _, c := range examples {
		if got := oper.Apply(c.ops, c.of); !slices.Equal(got, c.want) {
			t.Errorf("%+v of %+v: %+v, not %+v", c.ops, c.of, got, c.want)
		}
	}
}

// wrapped returns a number as an int64, of which it has the lowest bits.
func wrapped(n *big.Int) int64 {
	most := new(big.Int).SetUint64(math.MaxUint64)
	return int64(new(big.Int).And(n, most).Uint64())
}

// resultsOf returns an operator's results for a record, as the chapter says, in big numbers.
func resultsOf(op api.Op, x api.Rec) []api.Rec {
	if x.Err || x.Late || !isValid(op) || op.Kind > 3 {
		return []api.Rec{x}
	}
	a, b, val := big.NewInt(op.A), big.NewInt(op.B), big.NewInt(x.Val)
	switch op.Kind {
	case 0:
		x.Val = wrapped(val.Mul(val, a).Add(val, b))
	case 1:
		key := big.NewInt(int64(x.Key))
		key.Mod(key, a).Add(key, b)
		x.Key = uint32(key.Mod(key, big.NewInt(1<<32)).Int64())
	case 2:
		if val.Mod(val, a).Cmp(b) != 0 { // Mod's result is from 0 on
			return nil
		}
	case 3:
		var all []api.Rec
		for range op.A {
			x.Val = wrapped(val)
			all = append(all, x)
			val.Add(val, b)
		}
		return all
	}
	return []api.Rec{x}
}

// records returns records with each of these values and keys at edges; some of them are Err, Late, or both.
func records(values []int64) []api.Rec {
	keys := []uint32{0, 1, 6, 7, 1 << 31, 1<<32 - 2, 1<<32 - 1}
	var all []api.Rec
	for i, v := range values {
		x := api.Rec{Key: keys[i%len(keys)], Time: v - 7, Val: v, Side: uint8(i)}
		all = append(all, x)
		if i%5 == 0 {
			all = append(all, anErr(x), aLate(x), aLate(anErr(x)))
		}
	}
	return all
}

// P4.2, P1: any operator alone, for any record.
func TestApplyOne(t *testing.T) {
	for _, numbers := range [][]int64{samples.Edges(), samples.Small()} {
		for op := range samples.EveryOp(numbers) {
			if op.Agg != 0 && op.Agg != 2 {
				continue // as many again of those that are not valid
			}
			for _, x := range records(numbers) {
				if got, want := oper.Apply([]api.Op{op}, x), resultsOf(op, x); !slices.Equal(got, want) {
					t.Fatalf("%+v of %+v: %+v, not %+v", op, x, got, want)
				}
			}
		}
	}
}

// P4.2: each kind for each key at an edge.
func TestApplyKeys(t *testing.T) {
	keys := []uint32{0, 1, 2, 3, 4, 5, 1<<31 - 1, 1 << 31, 1<<32 - 2, 1<<32 - 1}
	for op := range samples.EveryOp(samples.Edges()) {
		if op.Kind < 0 || op.Kind > 3 || op.Agg != 0 {
			continue
		}
		for _, key := range keys {
			x := api.Rec{Key: key, Time: -1, Val: 4, Side: 1}
			if got, want := oper.Apply([]api.Op{op}, x), resultsOf(op, x); !slices.Equal(got, want) {
				t.Fatalf("%+v of %+v: %+v, not %+v", op, x, got, want)
			}
		}
	}
}

// The result is the caller's, and the list of operators stays as it is.
func TestApplyIsNew(t *testing.T) {
	ops := []api.Op{{Kind: api.OpFlat, A: 2, B: 1}, {Kind: api.OpMap, A: 3, B: 1}}
	kept := slices.Clone(ops)
	for n := range 3 {
		first := oper.Apply(ops[:n], r)
		want := slices.Clone(first)
		for i := range first {
			first[i] = api.Rec{Val: 99}
		}
		if got := oper.Apply(ops[:n], r); !slices.Equal(got, want) || !slices.Equal(ops, kept) {
			t.Errorf("%d operators: %+v, not %+v; %+v", n, got, want, ops)
		}
	}
}
