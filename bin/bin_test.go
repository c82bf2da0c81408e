package bin_test

import (
	"math"
	"math/big"
	"testing"

	"anabranch/api"
	"anabranch/bin"
)

// P7.1: the examples, and others.
func TestOfExamples(t *testing.T) {
	for _, c := range []struct {
		key  uint32
		want int
	}{
		{0, 0}, {1, 4}, {2, 1}, {3, 6}, {4, 3}, {5, 0},
		{math.MaxUint32, 3}, // that of -1: below 4, where 1 is
		{1 << 31, 4},        // the product is odd, times 2^31
		{1 << 29, 1},
		{1<<32 - 1<<29, 7},
	} {
		if got := bin.Of(c.key); got != c.want {
			t.Errorf("%d: %d, not %d", c.key, got, c.want)
		}
	}
}

// byDefinition is the bin of a key, of the whole product.
func byDefinition(key uint32) int {
	p := new(big.Int).Mul(big.NewInt(2654435761), big.NewInt(int64(key)))
	p.Mod(p, new(big.Int).Lsh(big.NewInt(1), 32))
	return int(p.Rsh(p, 29).Int64())
}

// P7.1: Of is what the chapter says, of keys everywhere and at both ends.
func TestOfDefinition(t *testing.T) {
	for n := range uint32(1 << 15) {
		for _, key := range []uint32{n, -n, 1<<31 + n, n << 17, n * 104729} {
			if got, want := bin.Of(key), byDefinition(key); got != want {
				t.Fatalf("%d: %d, not %d", key, got, want)
			}
		}
	}
}

// inverse is what the factor must be multiplied with so that the lowest 32 bits are 1.
func inverse(factor uint32) uint32 {
	x := factor
	for range 5 {
		x *= 2 - factor*x
	}
	return x
}

// P7.3: of 64 consecutive keys each bin has from five to eleven. How many it has changes only where one of the products comes to a bin's beginning: the keys from which on one does are enough for all.
func TestOfSpread(t *testing.T) {
	const factor = 2654435761
	back := inverse(factor)
	if back*factor != 1 {
		t.Fatal(back)
	}
	for b := range uint32(api.Bins) {
		for j := range uint32(64) {
			key := (b<<29 - j*factor) * back
			var n [api.Bins]int
			for k := range uint32(64) {
				n[bin.Of(key+k)]++
			}
			for of, many := range n {
				if many < 5 || many > 11 {
					t.Fatalf("64 keys from %d: %d in %d", key, many, of)
				}
			}
		}
	}
}
