package nums_test

import (
	"bytes"
	"math"
	"math/big"
	"strings"
	"testing"

	"anabranch/nums"
	"anabranch/samples"
)

// edges are the numbers where the count of digits changes, and those beside them.
func edges() []uint64 {
	l := []uint64{0, 1, 2, 300, 16384, math.MaxUint32, math.MaxInt64, math.MaxUint64 - 1, math.MaxUint64}
	for bit := 1; bit < 64; bit++ {
		n := uint64(1) << bit
		l = append(l, n-1, n, n+1)
	}
	return l
}

// bytesOf is the chapter's term, by division of numbers of any size: independent of the package.
func bytesOf(n *big.Int) []byte {
	base := big.NewInt(128)
	rest, digit := new(big.Int).DivMod(n, base, new(big.Int))
	b := []byte{byte(digit.Int64())}
	for rest.Sign() > 0 {
		rest, digit = new(big.Int).DivMod(rest, base, new(big.Int))
		b = append([]byte{byte(digit.Int64()) + 128}, b...)
	}
	return b
}

// folded is the number that stands for an integer: 2n, or -2n - 1.
func folded(n int64) *big.Int {
	x := new(big.Int).Mul(big.NewInt(n), big.NewInt(2))
	if n < 0 {
		x.Neg(x).Sub(x, big.NewInt(1))
	}
	return x
}

// P1.1: the examples of the chapter.
func TestWrittenExamples(t *testing.T) {
	for _, c := range []struct {
		name, want string
		got        []byte
	}{
		{"0", "00", nums.P(nil, 0)},
		{"127", "7f", nums.P(nil, 127)},
		{"128", "81 00", nums.P(nil, 128)},
		{"300", "82 2c", nums.P(nil, 300)},
		{"2^64 - 1", "81 ff ff ff ff ff ff ff ff 7f", nums.P(nil, math.MaxUint64)},
		{"integer 0", "00", nums.PI(nil, 0)},
		{"integer -1", "01", nums.PI(nil, -1)},
		{"integer 1", "02", nums.PI(nil, 1)},
		{"integer -64", "7f", nums.PI(nil, -64)},
		{"integer 64", "81 00", nums.PI(nil, 64)},
		{"integer 2^63 - 1", "81 ff ff ff ff ff ff ff ff 7e", nums.PI(nil, math.MaxInt64)},
		{"integer -2^63", "81 ff ff ff ff ff ff ff ff 7f", nums.PI(nil, math.MinInt64)},
		{"false", "00", nums.PBool(nil, false)},
		{"true", "01", nums.PBool(nil, true)},
		{"text ab", "02 61 62", nums.PText(nil, "ab")},
		{"no text", "00", nums.PText(nil, "")},
		{"text of bytes that are no runes", "03 ff 00 80", nums.PText(nil, "\xff\x00\x80")},
	} {
		if string(c.got) != samples.Hex(c.want) {
			t.Errorf("%s: %x, not %s", c.name, c.got, c.want)
		}
	}
}

// P1.1: numbers and integers as the terms say.
func TestWrittenByTheTerms(t *testing.T) {
	for _, n := range edges() {
		if got, want := nums.P(nil, n), bytesOf(new(big.Int).SetUint64(n)); !bytes.Equal(got, want) {
			t.Errorf("P of %d: %x, not %x", n, got, want)
		}
		for _, i := range []int64{int64(n), -int64(n)} {
			if got, want := nums.PI(nil, i), bytesOf(folded(i)); !bytes.Equal(got, want) {
				t.Errorf("PI of %d: %x, not %x", i, got, want)
			}
		}
	}
}

// P1.1: a text is the number of its bytes, and these; also of a text of more than 127.
func TestWrittenTexts(t *testing.T) {
	for _, size := range []int{0, 1, 127, 128, 16383, 16384} {
		s := strings.Repeat("x", size)
		want := string(bytesOf(big.NewInt(int64(size)))) + s
		if got := nums.PText(nil, s); string(got) != want {
			t.Errorf("a text of %d bytes: %d bytes", size, len(got))
		}
	}
	if got := nums.PText(nil, "é"); string(got) != "\x02é" {
		t.Errorf("bytes, not runes, are counted: %x", got)
	}
}

// writers are the four functions, each with a fixed thing, and its bytes.
var writers = []struct {
	name, want string
	write      func(b []byte) []byte
}{
	{"P", "\x82\x2c", func(b []byte) []byte { return nums.P(b, 300) }},
	{"PI", "\x81\x00", func(b []byte) []byte { return nums.PI(b, 64) }},
	{"PBool", "\x01", func(b []byte) []byte { return nums.PBool(b, true) }},
	{"PText", "\x02ab", func(b []byte) []byte { return nums.PText(b, "ab") }},
}

// P1.1: the result begins with b, and is new.
func TestWrittenAfterB(t *testing.T) {
	for _, w := range writers {
		for _, b := range [][]byte{nil, {}, []byte("x"), []byte("head")} {
			if got := w.write(b); string(got) != string(b)+w.want {
				t.Errorf("%s after %q: %q", w.name, b, got)
			}
		}
		room := []byte("headRESTOFIT")
		b := room[:4]
		first := w.write(b)
		if string(room) != "headRESTOFIT" {
			t.Errorf("%s wrote into b's capacity: %q", w.name, room)
		}
		room[0] = '!'
		if string(first) != "head"+w.want {
			t.Errorf("%s: the result changes with b: %q", w.name, first)
		}
		first[1] = '?'
		if string(b) != "!ead" {
			t.Errorf("%s: b changes with the result: %q", w.name, b)
		}
		long := append(first, "tail"...)
		if again := append(w.write(first), "more"...); string(long[len(first):]) != "tail" {
			t.Errorf("%s: a result wrote into another's capacity: %q, %q", w.name, long, again)
		}
	}
}
