// Package samples has what the tests of all layers need, so that each doesn't have its own: bytes, lists, operators, and a look at faults; no layer uses it.
package samples

import (
	"errors"
	"iter"
	"math"
	"slices"
	"strconv"
	"strings"

	"anabranch/api"
)

// Hex returns the bytes of hexadecimal digits, which may be apart. It panics if they are not pairs of digits: only a test that is wrong has such.
func Hex(digits string) string {
	digits = strings.ReplaceAll(digits, " ", "")
	var b []byte
	for ; digits != ""; digits = digits[2:] {
		n, err := strconv.ParseUint(digits[:2], 16, 8)
		if err != nil {
			panic(err)
		}
		b = append(b, byte(n))
	}
	return string(b)
}

// Short returns all texts of up to that many bytes, each byte one of these.
func Short(of string, most int) []string {
	all, last := []string{""}, []string{""}
	for range most {
		var next []string
		for _, s := range last {
			for i := range len(of) {
				next = append(next, s+of[i:i+1])
			}
		}
		all, last = append(all, next...), next
	}
	return all
}

// EveryByte returns each byte once.
func EveryByte() string {
	var b [256]byte
	for i := range b {
		b[i] = byte(i)
	}
	return string(b[:])
}

// IsFault tells whether an error is a fault with that code, and there.
func IsFault(err error, code api.Errno, place int) bool {
	f, is := err.(*api.Fault)
	return is && f != nil && f.Code == code && f.At == place && errors.Is(err, code)
}

// Lists returns all lists of up to that many elements, each one of these.
func Lists[T any](of []T, most int) [][]T {
	all, last := [][]T{nil}, [][]T{nil}
	for range most {
		var next [][]T
		for _, l := range last {
			for _, x := range of {
				next = append(next, append(slices.Clone(l), x))
			}
		}
		all, last = append(all, next...), next
	}
	return all
}

// Edges returns numbers at which something of an operator begins or ends, or one of Go's types, and some beside them.
func Edges() []int64 {
	all := []int64{math.MinInt64, math.MaxInt64, 0, 1, -1, 6}
	for _, n := range []int64{4, 1 << 28, 1 << 30, 1 << 32} {
		all = append(all, n-1, n, n+1, -n)
	}
	return all
}

// Small returns the numbers from -3 to 24.
func Small() []int64 {
	var all []int64
	for n := range int64(28) {
		all = append(all, n-3)
	}
	return all
}

// EveryOp yields operators of all kinds and aggregates, and of others, with each of these numbers as A and B.
func EveryOp(numbers []int64) iter.Seq[api.Op] {
	kinds := []int{math.MinInt, -1, 0, 1, 2, 3, 4, 5, 6, 7, 8, math.MaxInt}
	aggs := []int{math.MinInt, -1, 0, 1, 2, 3, 4, math.MaxInt}
	return func(yield func(api.Op) bool) {
		for _, kind := range kinds {
			for _, agg := range aggs {
				for _, a := range numbers {
					for _, b := range numbers {
						if !yield(api.Op{Kind: kind, A: a, B: b, Agg: agg}) {
							return
						}
					}
				}
			}
		}
	}
}
