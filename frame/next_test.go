package frame_test

import (
	"encoding/binary"
	"math"
	"strings"
	"testing"

	"anabranch/api"
	"anabranch/frame"
	"anabranch/samples"
)

// nextBy is P2.2 by the terms: a body is what has its frame there; otherwise the sentence's errors in their order. It is independent of the package.
func nextBy(s string, at int) (string, int, api.Errno) {
	switch {
	case at < 0 || at > len(s):
		return "", at, api.ErrArg
	case at == len(s):
		return "", at, api.ErrEmpty
	}
	rest := s[at:]
	for n := 0; n+5 <= len(rest) && n <= 1<<20; n++ {
		if body := rest[4 : 4+n]; strings.HasPrefix(rest, frameOf(body)) {
			return body, at + n + 5, api.OK
		}
	}
	switch {
	case rest[0] != 165:
		return "", at, api.ErrForm
	case len(rest) < 4:
		return "", at, api.ErrTorn
	}
	n := binary.BigEndian.Uint32([]byte{0, rest[1], rest[2], rest[3]})
	if n <= 1<<20 && len(rest) < int(n)+5 {
		return "", at, api.ErrTorn
	}
	return "", at, api.ErrForm
}

// sameNext fails if Next does not return what it should.
func sameNext(t *testing.T, s string, at int, body string, next int, code api.Errno) {
	t.Helper()
	b, n, e := frame.Next(s, at)
	if b != body || n != next || e != code {
		t.Errorf("%.20x (%d bytes) at %d: %.20x (%d bytes), %d, %v; not %d, %v", s, len(s), at, b, len(b), n, e, next, code)
	}
}

// P2.2: the examples of the chapter.
func TestNextExamples(t *testing.T) {
	s := samples.Hex("a5 00 00 02 61 62 5a")
	sameNext(t, s, 0, "ab", 7, api.OK)
	sameNext(t, s, 7, "", 7, api.ErrEmpty)
	sameNext(t, s, 8, "", 8, api.ErrArg)
	sameNext(t, s, 1, "", 1, api.ErrForm)
	sameNext(t, samples.Hex("a5 00 00 02 61"), 0, "", 0, api.ErrTorn)
}

// P2.2: each error alone, and where several apply the one that is named first; whatever is ahead, which is not read.
func TestNextErrors(t *testing.T) {
	for _, c := range []struct {
		bytes string
		code  api.Errno
	}{
		{"", api.ErrEmpty},
		{"00", api.ErrForm}, // and fewer than four are left
		{"5a", api.ErrForm},
		{"a4 00 00 00 5a", api.ErrForm},
		{"00 ff ff ff 5a", api.ErrForm},
		{"a5", api.ErrTorn},
		{"a5 00", api.ErrTorn},
		{"a5 ff ff", api.ErrTorn}, // although any length would be too great
		{"a5 00 00 00", api.ErrTorn},
		{"a5 10 00 00", api.ErrTorn},    // the greatest length
		{"a5 10 00 01", api.ErrForm},    // and fewer are left than the frame would have
		{"a5 10 01 00 5a", api.ErrForm}, // by the second byte
		{"a5 11 00 00 5a", api.ErrForm},
		{"a5 ff ff ff", api.ErrForm},
		{"a5 00 00 02 61 62", api.ErrTorn},
		{"a5 00 00 02 61 5a", api.ErrTorn}, // a body's byte is not the last one
		{"a5 00 01 00 5a 5a", api.ErrTorn},
		{"a5 01 00 00 5a 5a", api.ErrTorn},
		{"a5 00 00 00 5b", api.ErrForm},
		{"a5 00 00 00 a5", api.ErrForm},
		{"a5 00 00 01 5a 61", api.ErrForm},
		{"a5 00 00 02 61 62 63 5a", api.ErrForm}, // the last one comes a byte too late
	} {
		for _, before := range []string{"", "\x00", "\xa5\xff", "\xa5\x00\x00\x00\x5a", "\xa5\x00\x00\x10"} {
			s := before + samples.Hex(c.bytes)
			sameNext(t, s, len(before), "", len(before), c.code)
		}
	}
}

// P2.2: an offset outside is an error before all others; the position is unchanged.
func TestNextOutside(t *testing.T) {
	for _, s := range []string{"", "x", "\xa5", "\xa5\x00\x00\x00\x5a", "\xa5\xff\xff\xff"} {
		for _, at := range []int{math.MinInt, math.MinInt + 1, math.MinInt + len(s), -len(s) - 1, -4, -1, len(s) + 1, len(s) + 5, math.MaxInt - 4, math.MaxInt} {
			sameNext(t, s, at, "", at, api.ErrArg)
		}
	}
}

// P2.2: the body at any offset, whatever is ahead and behind; also a frame in a body.
func TestNextAnywhere(t *testing.T) {
	for _, body := range []string{"", "a", "ab", "\x5a", "\xa5\x00\x00\x00\x5a", samples.EveryByte(), strings.Repeat("\x5a", 70000)} {
		for _, before := range []string{"", "\xa5", "\xa5\x00\x00\x00\x5a", "\xff\xff\xff\xff"} {
			for _, behind := range []string{"", "\x5a", "\xa5", "rest"} {
				s := before + frameOf(body) + behind
				sameNext(t, s, len(before), body, len(s)-len(behind), api.OK)
			}
		}
	}
	sameNext(t, frameOf("x"+frameOf("in")), 5, "in", 12, api.OK)
}

// P2.2: a body of MaxBody bytes, and its frame with a byte too few, or a wrong last one; one of a byte more than may be.
func TestNextGreatest(t *testing.T) {
	s := frameOf(strings.Repeat("x", api.MaxBody))
	sameNext(t, s, 0, s[4:len(s)-1], len(s), api.OK)
	sameNext(t, "\x00"+s, 1, s[4:len(s)-1], len(s)+1, api.OK)
	sameNext(t, s[:len(s)-1], 0, "", 0, api.ErrTorn)
	sameNext(t, s[:len(s)-1]+"x", 0, "", 0, api.ErrForm)
	sameNext(t, frameOf(strings.Repeat("x", api.MaxBody+1)), 0, "", 0, api.ErrForm)
}

// P1, P2.2: all short texts of the bytes that matter, at all offsets, those outside too, are as the sentence says.
func TestNextAllShort(t *testing.T) {
	for _, s := range samples.Short("\x00\x01\x10\x5a\xa5", 7) {
		for at := -1; at <= len(s)+1; at++ {
			body, next, code := nextBy(s, at)
			if b, n, e := frame.Next(s, at); b != body || n != next || e != code {
				t.Fatalf("%x at %d: %x, %d, %v; not %x, %d, %v", s, at, b, n, e, body, next, code)
			}
		}
	}
}
