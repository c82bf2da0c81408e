package codec_test

import (
	"reflect"
	"slices"
	"testing"

	"anabranch/api"
	"anabranch/codec"
	"anabranch/nums"
	"anabranch/samples"
)

// P3.2: what is there is returned and consumed, and nothing after it is; fields that are not among the parts are zero.
func TestReadExamples(t *testing.T) {
	for _, c := range examples {
		s := samples.Hex(c.bytes)
		for _, before := range []string{"", "\xff\x80"} {
			for _, behind := range []string{"", "\x00", "\x80\x7f"} {
				r := readerAt(t, before, s+behind)
				got, err := thingBy(c.name).get(r)
				if err != nil || !reflect.DeepEqual(got, c.x) {
					t.Errorf("%s, %s: %v, %v; not %v", c.name, c.bytes, got, err, c.x)
				}
				if r.Place() != len(before)+len(s) || r.Left() != len(behind) {
					t.Errorf("%s, %s: at %d, %d left", c.name, c.bytes, r.Place(), r.Left())
				}
			}
		}
	}
}

// over is 2^64, which is too great for a number.
const over = "82 80 80 80 80 80 80 80 80 00"

// greatest is 2^64 - 1.
const greatest = "81 ff ff ff ff ff ff ff ff 7f"

// faults are those of P3.2, of the first part that has one: where, and how many bytes are consumed then.
var faults = []struct {
	name, bytes  string
	code         api.Errno
	at, consumed int
}{
	{"a record", "", api.ErrShort, 0, 0},
	{"a record", "05 06 01", api.ErrShort, 3, 3},
	{"a record", "05 06 82", api.ErrShort, 2, 2},
	{"a record", "80 05 06", api.ErrForm, 0, 0},
	{"a record", "05 80 06", api.ErrForm, 1, 1},
	{"a record", "05" + over, api.ErrLong, 1, 1},
	{"a record", "05 06 01 01 02 00", api.ErrForm, 4, 4},
	{"a record", "05 06 01 01 00 02", api.ErrForm, 5, 5},
	{"a record", "90 80 80 80 00 06 01 01 00 00", api.ErrLong, 0, 5}, // a key of 2^32
	{"a record", "90 80 80 80 00", api.ErrLong, 0, 5},                // before what is lacking
	{"a record", greatest + "06 01 01 00 00", api.ErrLong, 0, 10},
	{"a record", over + "06 01 01 00 00", api.ErrLong, 0, 0}, // a number's fault: nothing is consumed
	{"an operator", "", api.ErrShort, 0, 0},
	{"an operator", "0a 18 05", api.ErrShort, 3, 3},
	{"an operator", "0a 80 18 05 04", api.ErrForm, 1, 1},
	{"a command", "", api.ErrShort, 0, 0},
	{"a command", "06 12", api.ErrShort, 2, 2},
	{"a command", "06 12 09", api.ErrLong, 2, 3}, // nine bins
	{"a command", "06 12 09 00 00 00 00 00 00 00 00 00 00 00 00 00 00 00 00", api.ErrLong, 2, 3},
	{"a command", "06 12" + greatest, api.ErrLong, 2, 12},
	{"a command", "06 12" + over, api.ErrLong, 2, 2},
	{"a command", "06 12 80 01", api.ErrForm, 2, 2},
	{"a command", "06 12 08 00 02 04 06 08 0a 0c", api.ErrShort, 10, 10},
	{"a command", "06 12 02 08 80 7f 0a", api.ErrForm, 4, 4},
	{"a command", "06 12 02 08 7f 0a 0c 0a 18 05 04", api.ErrShort, 11, 11}, // no mode
	{"an item", "", api.ErrShort, 0, 0},
	{"an item", "02 0e", api.ErrForm, 0, 0},
	{"an item", "01 0e", api.ErrShort, 2, 2},
	{"an item", "01 0e 90 80 80 80 00", api.ErrLong, 2, 7},
	{"an aggregate", "", api.ErrShort, 0, 0},
	{"an aggregate", "02 00 80 07 0e 0e", api.ErrForm, 2, 2},
	{"an aggregate", "02 00" + over + "0e 0e", api.ErrLong, 2, 2},
	{"an aggregate", "02 00 07 0e", api.ErrShort, 4, 4},
	{"an entry", "", api.ErrShort, 0, 0},
	{"an entry", "02 90 80 80 80 00 06 08 05", api.ErrLong, 1, 6},
	{"an entry", "02 02 06 08", api.ErrShort, 4, 4},
	{"an entry", "02 02 06 08 05", api.ErrShort, 5, 5},
	{"a chunk", "", api.ErrShort, 0, 0},
	{"a chunk", "02 04 02 00", api.ErrForm, 2, 2},
	{"a chunk", "02 04 01", api.ErrShort, 3, 3},
	{"a chunk", "02 04 01 41", api.ErrLong, 3, 4}, // 65 entries
	{"a chunk", "02 04 01 81 00", api.ErrLong, 3, 5},
	{"a chunk", "02 04 01" + greatest, api.ErrLong, 3, 13},
	{"a chunk", "02 04 01 40", api.ErrShort, 4, 4}, // 64 may be there
	{"a chunk", "02 04 01 01 02 90 80 80 80 00", api.ErrLong, 5, 10},
	{"a chunk", "02 04 01 02" + entHex + "00 00 00 00 00 00 00", api.ErrShort, 22, 22},
	{"a message", "", api.ErrShort, 0, 0},
	{"a message", "80 0a", api.ErrForm, 0, 0},
	{"a message", "0a", api.ErrKind, 0, 1}, // before what is lacking
	{"a message", "0a 00", api.ErrKind, 0, 1},
	{"a message", "0a 80 01", api.ErrKind, 0, 1},
	{"a message", "01 00", api.ErrKind, 0, 1}, // -1
	{"a message", "81 00 00", api.ErrKind, 0, 2},
	{"a message", greatest, api.ErrKind, 0, 10},
	{"a message", over, api.ErrLong, 0, 0},
	{"a message", "00", api.ErrShort, 1, 1},
	{"a message", "00 04", api.ErrShort, 2, 2},
	{"a message", "02 04", api.ErrShort, 2, 2},
	{"a message", "04 04", api.ErrShort, 2, 2},
	{"a message", "06 04", api.ErrShort, 2, 2},
	{"a message", "08 04", api.ErrShort, 2, 2},
	{"a message", "00 04 90 80 80 80 00", api.ErrLong, 2, 7},
	{"a message", "06 04 06 12 09", api.ErrLong, 4, 5},
	{"a message", "08 04 02 04 01 41", api.ErrLong, 5, 6},
}

// P3.2, P1: a fault is At its position, comes with a zero value, and what was read before it is consumed.
func TestFaults(t *testing.T) {
	for _, c := range faults {
		s := samples.Hex(c.bytes)
		for _, before := range []string{"", "\x00\xff\x80"} {
			r := readerAt(t, before, s)
			got, err := thingBy(c.name).get(r)
			if !samples.IsFault(err, c.code, len(before)+c.at) {
				t.Errorf("%s, %s from %d on: %v; not %v at %d", c.name, c.bytes, len(before), err, c.code, c.at)
			}
			if !reflect.ValueOf(got).IsZero() {
				t.Errorf("%s, %s: %v with a fault", c.name, c.bytes, got)
			}
			if r.Place() != len(before)+c.consumed {
				t.Errorf("%s, %s from %d on: up to %d, not %d", c.name, c.bytes, len(before), r.Place(), c.consumed)
			}
		}
	}
}

// P3.2: what follows a fault can be read.
func TestReadAfterFault(t *testing.T) {
	r := nums.New(samples.Hex("0a" + "02 04 81 48"))
	if _, err := codec.GMsg(r); !samples.IsFault(err, api.ErrKind, 0) {
		t.Error(err)
	}
	if x, err := codec.GMsg(r); err != nil || x.Time != 100 || r.End() != nil {
		t.Error(x, err)
	}
	if _, err := codec.GMsg(r); !samples.IsFault(err, api.ErrShort, 5) {
		t.Error(err)
	}
}

// P3.2: a nil reader's fault.
func TestNilReader(t *testing.T) {
	for _, of := range things {
		if got, err := of.get(nil); !samples.IsFault(err, api.ErrNil, 0) || !reflect.ValueOf(got).IsZero() {
			t.Errorf("%s: %v, %v", of.name, got, err)
		}
	}
}

// P3.2: the longest lists, and those longer by one, whose elements are there too.
func TestReadLongLists(t *testing.T) {
	for _, c := range []struct {
		name string
		x    any
		code api.Errno
		at   int
	}{
		{"a command", api.Cmd{Bins: make([]int, 8)}, api.OK, 0},
		{"a command", api.Cmd{Bins: make([]int, 9)}, api.ErrLong, 2},
		{"a chunk", api.Chunk{Entries: make([]api.Entry, 64)}, api.OK, 0},
		{"a chunk", api.Chunk{Entries: make([]api.Entry, 65)}, api.ErrLong, 3},
	} {
		r := nums.New(string(thingBy(c.name).put(nil, reflect.ValueOf(c.x))))
		got, err := thingBy(c.name).get(r)
		if c.code == api.OK && (err != nil || !reflect.DeepEqual(got, c.x) || r.End() != nil) {
			t.Errorf("%s: %v, %v", c.name, got, err)
		}
		if c.code != api.OK && (!samples.IsFault(err, c.code, c.at) || r.Place() != c.at+1) {
			t.Errorf("%s: %v, up to %d", c.name, err, r.Place())
		}
	}
}

// P3.2: things that are cut anywhere, or of which any byte is another one.
func TestReadDamaged(t *testing.T) {
	f := newFiller(2)
	others := samples.Hex("00 01 02 05 08 09 0a 40 41 7f 80 81 90 ff")
	for _, of := range things {
		for range 30 {
			s := string(bytesBy(of.name, f.filled(of)))
			for i := range len(s) {
				sameRead(t, of, "\x81", s[:i])
				for c := range len(others) {
					sameRead(t, of, "", s[:i]+others[c:c+1]+s[i+1:])
				}
			}
		}
	}
}

// What was read belongs to the caller: changing it changes nothing of what was read elsewhere; so does a fault.
func TestReadBelongsToCaller(t *testing.T) {
	s := string(codec.PMsg(codec.PMsg(nil, full(api.MsgCmd)), full(api.MsgPart)))
	read := func() (api.Msg, api.Msg) {
		r := nums.New(s)
		a, e1 := codec.GMsg(r)
		b, e2 := codec.GMsg(r)
		if e1 != nil || e2 != nil {
			t.Fatal(e1, e2)
		}
		return a, b
	}
	a, b := read()
	c, d := read()
	a.Cmd.Bins[0], b.Chunk.Entries[0].Key = 77, 77
	if !slices.Equal(c.Cmd.Bins, aCmd.Bins) || !slices.Equal(d.Chunk.Entries, aChunk.Entries) {
		t.Error(c, d)
	}
	_, err := codec.GMsg(nums.New("\x0a"))
	if f, is := err.(*api.Fault); is {
		f.Code, f.At = api.ErrBusy, 9
	}
	if _, err = codec.GMsg(nums.New("\x0a")); !samples.IsFault(err, api.ErrKind, 0) {
		t.Error(err)
	}
}
