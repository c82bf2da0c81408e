package nums_test

import (
	"math"
	"strings"
	"testing"

	"anabranch/api"
	"anabranch/nums"
	"anabranch/samples"
)

// reading is one of a reader's calls that read: its results as a value, and its error.
type reading struct {
	name string
	zero any
	read func(r *nums.Reader) (any, error)
}

func numberOf(r *nums.Reader) (any, error)  { n, err := r.U(); return n, err }
func integerOf(r *nums.Reader) (any, error) { n, err := r.I(); return n, err }
func byteOf(r *nums.Reader) (any, error)    { c, err := r.Byte(); return c, err }
func truthOf(r *nums.Reader) (any, error)   { is, err := r.Bool(); return is, err }

func textOf(most int) func(r *nums.Reader) (any, error) {
	return func(r *nums.Reader) (any, error) { s, err := r.Text(most); return s, err }
}

var (
	readU    = reading{"U", uint64(0), numberOf}
	readI    = reading{"I", int64(0), integerOf}
	readByte = reading{"Byte", byte(0), byteOf}
	readBool = reading{"Bool", false, truthOf}
)

func readText(most int) reading { return reading{"Text", "", textOf(most)} }

// at returns a reader whose position is that many bytes from the beginning; s is what is left.
func at(t *testing.T, before int, s string) *nums.Reader {
	t.Helper()
	r := nums.New(strings.Repeat("\xff", before) + s)
	for range before {
		if _, err := r.Byte(); err != nil {
			t.Fatal(err)
		}
	}
	return r
}

// P1.2: what is there is returned and consumed, and nothing after it is.
func TestRead(t *testing.T) {
	for _, c := range []struct {
		reading
		bytes string
		want  any
	}{
		{readU, "00", uint64(0)},
		{readU, "7f", uint64(127)},
		{readU, "81 00", uint64(128)},
		{readU, "82 2c", uint64(300)},
		{readU, "81 80 00", uint64(16384)},
		{readU, "ff ff ff ff ff ff ff ff 7f", uint64(1<<63 - 1)},
		{readU, "81 80 80 80 80 80 80 80 80 00", uint64(1 << 63)},
		{readU, "81 ff ff ff ff ff ff ff ff 7f", uint64(math.MaxUint64)},
		{readI, "00", int64(0)},
		{readI, "01", int64(-1)},
		{readI, "02", int64(1)},
		{readI, "7f", int64(-64)},
		{readI, "81 00", int64(64)},
		{readI, "81 ff ff ff ff ff ff ff ff 7e", int64(math.MaxInt64)},
		{readI, "81 ff ff ff ff ff ff ff ff 7f", int64(math.MinInt64)},
		{readByte, "00", byte(0)},
		{readByte, "80", byte(128)},
		{readByte, "ff", byte(255)},
		{readBool, "00", false},
		{readBool, "01", true},
		{readText(2), "02 61 62", "ab"},
		{readText(math.MaxInt), "02 61 62", "ab"},
		{readText(0), "00", ""},
		{readText(3), "03 ff 00 80", "\xff\x00\x80"},
	} {
		s := samples.Hex(c.bytes)
		for _, before := range []int{0, 3} {
			for _, behind := range []string{"", "\x00", "\x80\x7f"} {
				r := at(t, before, s+behind)
				got, err := c.read(r)
				if err != nil || got != c.want {
					t.Errorf("%s of %s: %v, %v; not %v", c.name, c.bytes, got, err, c.want)
				}
				if r.Place() != before+len(s) || r.Left() != len(behind) {
					t.Errorf("%s of %s: at %d, %d left", c.name, c.bytes, r.Place(), r.Left())
				}
			}
		}
	}
}

// P1.2: a text of more than 127 bytes, of exactly as many as it may have.
func TestReadLongText(t *testing.T) {
	s := strings.Repeat("long ", 40)
	r := nums.New(string(nums.PText(nil, s)) + "rest")
	got, err := r.Text(len(s))
	if err != nil || got != s || r.Place() != 2+len(s) || r.Left() != 4 {
		t.Errorf("%d bytes, %v; at %d", len(got), err, r.Place())
	}
}

// faults are those of P1.2, where several apply the one that is named first.
var faults = []struct {
	reading
	bytes string
	code  api.Errno
}{
	{readU, "", api.ErrShort},
	{readU, "82", api.ErrShort},
	{readU, "82 ff", api.ErrShort},
	{readU, "80", api.ErrShort},    // nothing ends it: that is before its form
	{readU, "80 80", api.ErrShort}, // as above
	{readU, "ff ff ff ff ff ff ff ff ff ff", api.ErrShort},
	{readU, "ff ff ff ff ff ff ff ff ff ff ff ff", api.ErrShort}, // and before its length
	{readU, "80 01", api.ErrForm},
	{readU, "80 00", api.ErrForm},
	{readU, "80 80 01", api.ErrForm},
	{readU, "80 81 ff ff ff ff ff ff ff ff 7f", api.ErrForm}, // its form is before its length
	{readU, "80 ff ff ff ff ff ff ff ff ff ff 7f", api.ErrForm},
	{readU, "82 80 80 80 80 80 80 80 80 00", api.ErrLong}, // 2^64
	{readU, "82 ff ff ff ff ff ff ff ff 7f", api.ErrLong},
	{readU, "ff ff ff ff ff ff ff ff ff 7f", api.ErrLong},
	{readU, "81 80 80 80 80 80 80 80 80 80 00", api.ErrLong}, // eleven, of which the lowest 64 bits are 0
	{readU, "81 80 80 80 80 80 80 80 80 80 80 80 05", api.ErrLong},
	{readI, "", api.ErrShort},
	{readI, "82", api.ErrShort},
	{readI, "80", api.ErrShort},
	{readI, "80 01", api.ErrForm},
	{readI, "82 80 80 80 80 80 80 80 80 00", api.ErrLong},
	{readI, "81 80 80 80 80 80 80 80 80 80 00", api.ErrLong},
	{readByte, "", api.ErrShort},
	{readBool, "", api.ErrShort},
	{readBool, "02", api.ErrForm},
	{readBool, "80", api.ErrForm},
	{readBool, "81 00", api.ErrForm},
	{readBool, "ff", api.ErrForm},
	{readText(-1), "", api.ErrArg}, // before the number's faults
	{readText(-1), "00", api.ErrArg},
	{readText(-1), "80 01", api.ErrArg},
	{readText(math.MinInt), "02 61 62", api.ErrArg},
	{readText(9), "", api.ErrShort},
	{readText(9), "82", api.ErrShort},
	{readText(9), "80 01 61", api.ErrForm},
	{readText(9), "82 80 80 80 80 80 80 80 80 00", api.ErrLong},
	{readText(1), "02 61 62", api.ErrLong},
	{readText(0), "01 61", api.ErrLong},
	{readText(1), "02", api.ErrLong}, // longer than it may be: that is before what is left
	{readText(math.MaxInt), "81 80 80 80 80 80 80 80 80 00", api.ErrLong},
	{readText(math.MaxInt), "81 ff ff ff ff ff ff ff ff 7f 61", api.ErrLong},
	{readText(2), "02 61", api.ErrShort},
	{readText(2), "02", api.ErrShort},
	{readText(math.MaxInt), "ff ff ff ff ff ff ff ff 7f 61", api.ErrShort},
}

// P1.2, P1: faults are At the position, come with zero values, and consume nothing.
func TestFaults(t *testing.T) {
	for _, c := range faults {
		s := samples.Hex(c.bytes)
		for _, before := range []int{0, 5} {
			r := at(t, before, s)
			for range 2 {
				got, err := c.read(r)
				if !samples.IsFault(err, c.code, before) || got != c.zero {
					t.Errorf("%s of %s, from %d on: %v, %v; not %v", c.name, c.bytes, before, got, err, c.code)
				}
				if r.Place() != before || r.Left() != len(s) {
					t.Errorf("%s of %s consumed: at %d, %d left", c.name, c.bytes, r.Place(), r.Left())
				}
			}
		}
	}
}

// P1.2: after a fault the same bytes can be read as something else.
func TestReadAfterFault(t *testing.T) {
	r := nums.New("\x02ab")
	if _, err := r.Bool(); !samples.IsFault(err, api.ErrForm, 0) {
		t.Error(err)
	}
	if _, err := r.Text(1); !samples.IsFault(err, api.ErrLong, 0) {
		t.Error(err)
	}
	if s, err := r.Text(2); s != "ab" || err != nil {
		t.Error(s, err)
	}
	if _, err := r.Byte(); !samples.IsFault(err, api.ErrShort, 3) {
		t.Error(err)
	}
}

// P1.2: a fault belongs to the caller.
func TestFaultIsNew(t *testing.T) {
	r := nums.New("")
	_, err := r.U()
	f, is := err.(*api.Fault)
	if !is {
		t.Fatal(err)
	}
	f.Code, f.At = api.ErrBusy, 77
	if _, again := r.U(); !samples.IsFault(again, api.ErrShort, 0) {
		t.Error(again)
	}
}

// P1.3: how much was consumed, and is left; the end.
func TestPlaceLeftEnd(t *testing.T) {
	r := nums.New("\x81\x00\x01\x02ab\x05")
	steps := []struct {
		read  func() error
		place int
	}{
		{func() error { return nil }, 0},
		{func() error { _, err := r.U(); return err }, 2},
		{func() error { _, err := r.Bool(); return err }, 3},
		{func() error { _, err := r.Text(2); return err }, 6},
		{func() error { _, err := r.Byte(); return err }, 7},
	}
	for _, s := range steps {
		if err := s.read(); err != nil {
			t.Fatal(err)
		}
		if r.Place() != s.place || r.Left() != 7-s.place {
			t.Errorf("at %d, %d left; not at %d", r.Place(), r.Left(), s.place)
		}
		if err := r.End(); s.place < 7 && !samples.IsFault(err, api.ErrLong, s.place) || s.place == 7 && err != nil {
			t.Errorf("the end, at %d: %v", s.place, err)
		}
	}
	if err := nums.New("").End(); err != nil {
		t.Error(err)
	}
}

// P1.3: a nil reader's faults, also if the arguments are wrong too.
func TestNilReader(t *testing.T) {
	var r *nums.Reader
	for _, x := range []reading{readU, readI, readByte, readBool, readText(5), readText(0), readText(-1)} {
		if got, err := x.read(r); !samples.IsFault(err, api.ErrNil, 0) || got != x.zero {
			t.Errorf("%s: %v, %v", x.name, got, err)
		}
	}
	if !samples.IsFault(r.End(), api.ErrNil, 0) || r.Place() != 0 || r.Left() != 0 {
		t.Error(r.End(), r.Place(), r.Left())
	}
}

// A reader that New didn't make has nothing to read.
func TestZeroReader(t *testing.T) {
	r := new(nums.Reader)
	if _, err := r.U(); !samples.IsFault(err, api.ErrShort, 0) || r.End() != nil || r.Place() != 0 || r.Left() != 0 {
		t.Error(err, r.End())
	}
}

// Two readers of one text don't know each other.
func TestReadersApart(t *testing.T) {
	a, b := nums.New("\x01\x02"), nums.New("\x01\x02")
	if _, err := a.U(); err != nil || a.Place() != 1 || b.Place() != 0 {
		t.Error(err, a.Place(), b.Place())
	}
}
