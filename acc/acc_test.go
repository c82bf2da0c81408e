package acc_test

import (
	"math"
	"math/big"
	"testing"

	"anabranch/acc"
	"anabranch/api"
)

// values are int64s at edges, and others.
var values = []int64{math.MinInt64, math.MinInt64 + 1, -1 << 62, -1 << 32, -3, -1, 0, 1, 7, 1 << 32, 1 << 62, math.MaxInt64 - 1, math.MaxInt64}

// power returns 2 to the power of n.
func power(n uint) *big.Int { return new(big.Int).Lsh(big.NewInt(1), n) }

// sumOf returns an aggregate's sum, as the chapter says.
func sumOf(a api.Acc) *big.Int {
	n := new(big.Int).Mul(big.NewInt(a.Hi), power(64))
	return n.Add(n, new(big.Int).SetUint64(a.Lo))
}

// halves returns a sum's upper and lower 64 bits; what is beyond both is lost.
func halves(sum *big.Int) (int64, uint64) {
	lo := new(big.Int).Mod(sum, power(64)) // Mod's result is from 0 on
	hi := new(big.Int).Rsh(sum, 64)        // of two's complement
	return int64(new(big.Int).Mod(hi, power(64)).Uint64()), lo.Uint64()
}

// of returns the aggregate of some values, as the chapter says.
func of(all ...int64) api.Acc {
	if len(all) == 0 {
		return api.Acc{}
	}
	a, sum := api.Acc{N: int64(len(all)), Min: all[0], Max: all[0]}, new(big.Int)
	for _, v := range all {
		sum.Add(sum, big.NewInt(v))
		a.Min, a.Max = min(a.Min, v), max(a.Max, v)
	}
	a.Hi, a.Lo = halves(sum)
	return a
}

// P5.1: the examples.
func TestExamples(t *testing.T) {
	seven, least := acc.One(7), acc.One(-1)
	if want := (api.Acc{N: 1, Lo: 7, Min: 7, Max: 7}); seven != want {
		t.Errorf("%+v, not %+v", seven, want)
	}
	if want := (api.Acc{N: 1, Hi: -1, Lo: math.MaxUint64, Min: -1, Max: -1}); least != want {
		t.Errorf("%+v, not %+v", least, want)
	}
	if got, want := acc.Merge(seven, least), (api.Acc{N: 2, Lo: 6, Min: -1, Max: 7}); got != want {
		t.Errorf("%+v, not %+v", got, want)
	}
}

// P5.1: the aggregate of one value.
func TestOne(t *testing.T) {
	for _, v := range values {
		if got, want := acc.One(v), of(v); got != want {
			t.Errorf("%d: %+v, not %+v", v, got, want)
		}
	}
}

// P5.1: the sum of two values, with a carry or without, of each sign.
func TestMergeTwo(t *testing.T) {
	for _, v := range values {
		for _, w := range values {
			if got, want := acc.Merge(acc.One(v), acc.One(w)), of(v, w); got != want {
				t.Errorf("%d, %d: %+v, not %+v", v, w, got, want)
			}
		}
	}
}

// some are aggregates with each of these numbers and halves of sums, whether there are values of which they are the aggregates or not.
func some() []api.Acc {
	var all []api.Acc
	for _, n := range []int64{math.MinInt64, -1, 0, 1, 2, math.MaxInt64} {
		for _, hi := range []int64{math.MinInt64, -2, -1, 0, 1, math.MaxInt64} {
			for _, lo := range []uint64{0, 1, math.MaxInt64, 1 << 63, math.MaxUint64} {
				i := len(all)
				least, most := values[i%len(values)], values[i*5%len(values)]
				all = append(all, api.Acc{N: n, Hi: hi, Lo: lo, Min: least, Max: most})
			}
		}
	}
	return all
}

// merged returns what two aggregates are together, as the chapter says.
func merged(a, b api.Acc) api.Acc {
	if a.N == 0 {
		return b
	}
	if b.N == 0 {
		return a
	}
	m := api.Acc{N: a.N + b.N, Min: a.Min, Max: b.Max}
	if b.Min < a.Min {
		m.Min = b.Min
	}
	if a.Max > b.Max {
		m.Max = a.Max
	}
	m.Hi, m.Lo = halves(new(big.Int).Add(sumOf(a), sumOf(b)))
	return m
}

// P5.1, P1: any two aggregates; overflow is lost.
func TestMergeAny(t *testing.T) {
	for _, a := range some() {
		for _, b := range some() {
			if got, want := acc.Merge(a, b), merged(a, b); got != want {
				t.Fatalf("%+v, %+v: %+v, not %+v", a, b, got, want)
			}
		}
	}
}

// P5.1: an aggregate whose N is 0 changes nothing, whatever else it has; of two such ones it is the second one.
func TestMergeEmpty(t *testing.T) {
	full := acc.One(-5)
	for _, no := range []api.Acc{{}, {Hi: 3, Lo: 9, Min: -100, Max: 100}, {Lo: 1}, {Min: -6}, {Max: 6}} {
		if got := acc.Merge(no, full); got != full {
			t.Errorf("%+v first: %+v", no, got)
		}
		if got := acc.Merge(full, no); got != full {
			t.Errorf("%+v second: %+v", no, got)
		}
		if got := acc.Merge(api.Acc{Hi: 7, Min: -7, Max: 7}, no); got != no {
			t.Errorf("%+v after one that is empty too: %+v", no, got)
		}
	}
}
