// Package samples has what the tests of all layers need, so that each doesn't have its own: bytes, and a look at faults; no layer uses it.
package samples

import (
	"errors"
	"strconv"
	"strings"

	"anabranch/api"
)

// Hex returns the bytes of hexadecimal digits, which may be apart. It panics if they are not pairs of digits: only a test that is wrong has such.
func Hex(digits string) string {
	digits = strings.ReplaceAll(digits, " ", "")
	var b []byte
	for ; digits != ""; digits = digits[2:] {
		n, err := strconv.ParseUint(digits[:2], 16, 8)
		if err != nil {
			panic(err)
		}
		b = append(b, byte(n))
	}
	return string(b)
}

// Short returns all texts of up to that many bytes, each byte one of these.
func Short(of string, most int) []string {
	all, last := []string{""}, []string{""}
	for range most {
		var next []string
		for _, s := range last {
			for i := range len(of) {
				next = append(next, s+of[i:i+1])
			}
		}
		all, last = append(all, next...), next
	}
	return all
}

// EveryByte returns each byte once.
func EveryByte() string {
	var b [256]byte
	for i := range b {
		b[i] = byte(i)
	}
	return string(b[:])
}

// IsFault tells whether an error is a fault with that code, and there.
func IsFault(err error, code api.Errno, place int) bool {
	f, is := err.(*api.Fault)
	return is && f != nil && f.Code == code && f.At == place && errors.Is(err, code)
}
