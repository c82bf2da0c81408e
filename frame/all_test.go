package frame_test

import (
	"slices"
	"strings"
	"testing"

	"anabranch/api"
	"anabranch/frame"
	"anabranch/samples"
)

// sequences are lists of bodies, by each of which frames are laid one after the other.
func sequences() [][]string {
	return [][]string{
		{},
		{""},
		{"ab"},
		{"", "", ""},
		{"first", "", "third one"},
		{"\xa5", "\x5a", "\xa5\x00\x00", "\xa5\x00\x00\x00\x5a"},
		{samples.EveryByte(), "x", samples.EveryByte() + samples.EveryByte()},
	}
}

// sequence returns the bodies' frames, one after the other, and the offset of each, and of the end.
func sequence(t *testing.T, bodies []string) (string, []int) {
	t.Helper()
	s, offsets := "", []int{0}
	for _, b := range bodies {
		f, e := frame.Put(b)
		if e != api.OK {
			t.Fatal(e)
		}
		s += f
		offsets = append(offsets, len(s))
	}
	return s, offsets
}

// sameAll fails if All does not return what it should.
func sameAll(t *testing.T, s string, bodies []string, at int, code api.Errno) {
	t.Helper()
	b, n, e := frame.All(s)
	if !slices.Equal(b, bodies) || n != at || e != code {
		t.Errorf("%.40x (%d bytes): %.10q, %d, %v; not %.10q, %d, %v", s, len(s), b, n, e, bodies, at, code)
	}
}

// P2.3: the example of the chapter, and what may follow frames, with the offset of it.
func TestAllExamples(t *testing.T) {
	s := samples.Hex("a5 00 00 02 61 62 5a")
	for _, c := range []struct {
		bytes string
		code  api.Errno
	}{
		{"", api.OK},
		{"a5", api.ErrTorn},
		{"a5 00 00 02 61", api.ErrTorn},
		{"00", api.ErrForm},
		{"5a", api.ErrForm},
		{"a5 10 00 01", api.ErrForm},
		{"a5 00 00 00 00", api.ErrForm},
		{"a5 00 00 01 5a a5 00 00 00 5a", api.ErrForm}, // a frame behind it is not looked for
		{"00 a5 00 00 00 5a", api.ErrForm},
	} {
		sameAll(t, s+samples.Hex(c.bytes), []string{"ab"}, 7, c.code)
		sameAll(t, samples.Hex(c.bytes), nil, 0, c.code)
	}
}

// P2.4: the bodies of a sequence are read again, in order, at once and one by one.
func TestReadAgain(t *testing.T) {
	for _, bodies := range sequences() {
		s, offsets := sequence(t, bodies)
		sameAll(t, s, bodies, len(s), api.OK)
		for i, b := range bodies {
			sameNext(t, s, offsets[i], b, offsets[i+1], api.OK)
		}
		sameNext(t, s, len(s), "", len(s), api.ErrEmpty)
	}
}

// P2.4: of a sequence that is cut anywhere the complete frames are read, and the rest is torn, or empty.
func TestCutAnywhere(t *testing.T) {
	for _, bodies := range sequences() {
		s, offsets := sequence(t, bodies)
		for cut := range len(s) + 1 {
			complete := 0
			for complete < len(bodies) && offsets[complete+1] <= cut {
				complete++
			}
			code := api.ErrTorn
			if offsets[complete] == cut {
				code = api.OK
			}
			sameAll(t, s[:cut], bodies[:complete], offsets[complete], code)
		}
	}
}

// P2.4: bodies of MaxBody bytes, and a torn one.
func TestReadGreatestAgain(t *testing.T) {
	long := strings.Repeat("long", api.MaxBody/4)
	s, offsets := sequence(t, []string{long, "", long})
	sameAll(t, s, []string{long, "", long}, len(s), api.OK)
	sameAll(t, s[:len(s)-1], []string{long, ""}, offsets[2], api.ErrTorn)
}

// P2.3: many frames: All goes over them once.
func TestAllMany(t *testing.T) {
	s := strings.Repeat(frameOf("")+frameOf("x"), 100000)
	bodies, at, e := frame.All(s)
	if len(bodies) != 200000 || at != len(s) || e != api.OK || bodies[199998] != "" || bodies[199999] != "x" {
		t.Error(len(bodies), at, e)
	}
}

// What All returned belongs to the caller: changing it changes nothing of what another call returned, or will.
func TestAllBelongsToCaller(t *testing.T) {
	s := frameOf("a") + frameOf("b")
	first, _, _ := frame.All(s)
	second, _, _ := frame.All(s)
	first[0], first[1] = "changed", "too"
	if !slices.Equal(second, []string{"a", "b"}) {
		t.Error(second)
	}
	sameAll(t, s, []string{"a", "b"}, len(s), api.OK)
}

// allBy is P2.3 by nextBy.
func allBy(s string) (bodies []string, at int, e api.Errno) {
	for e == api.OK {
		var body string
		if body, at, e = nextBy(s, at); e == api.OK {
			bodies = append(bodies, body)
		}
	}
	if e == api.ErrEmpty {
		e = api.OK
	}
	return bodies, at, e
}

// allAsSaid fails if All of a text is not as P2.3 says, or what it read is not what is there.
func allAsSaid(t *testing.T, s string) {
	t.Helper()
	bodies, at, code := allBy(s)
	b, n, e := frame.All(s)
	if !slices.Equal(b, bodies) || n != at || e != code {
		t.Fatalf("%x: %q, %d, %v; not %q, %d, %v", s, b, n, e, bodies, at, code)
	}
	if again, _ := sequence(t, b); again != s[:n] {
		t.Fatalf("%x: %q are not the bodies up to %d", s, b, n)
	}
}

// P1, P2.3: all short texts of bytes that matter.
func TestAllShort(t *testing.T) {
	for _, s := range samples.Short("\x00\x01\x5a\xa5", 8) {
		allAsSaid(t, s)
	}
	pieces := []string{frameOf(""), frameOf("a"), frameOf("\x5a"), "\xa5", "\x5a", "\x00", "\xa5\x00\x00\x01", "\xa5\x10\x00\x00", "\xa5\x10\x00\x01"}
	for _, which := range samples.Short("\x00\x01\x02\x03\x04\x05\x06\x07\x08", 4) {
		s := ""
		for _, i := range []byte(which) {
			s += pieces[i]
		}
		allAsSaid(t, s)
	}
}

// FuzzAll looks for bytes for which P2.2 or P2.3 doesn't hold.
func FuzzAll(f *testing.F) {
	for _, s := range []string{"", "\xa5", "\xa5\x00\x00\x00\x5a", "\xa5\x00\x00\x02ab\x5a\xa5", "\xa5\x10\x00\x01", "\x00"} {
		f.Add(s, 0)
	}
	f.Fuzz(func(t *testing.T, s string, at int) {
		body, next, code := nextBy(s, at)
		if b, n, e := frame.Next(s, at); b != body || n != next || e != code {
			t.Fatalf("%x at %d: %x, %d, %v; not %x, %d, %v", s, at, b, n, e, body, next, code)
		}
		allAsSaid(t, s)
	})
}
