package nums_test

import (
	"math"
	"math/big"
	"testing"

	"anabranch/api"
	"anabranch/nums"
	"anabranch/samples"
)

// P1.4: what was written, one thing after the other, is read again.
func TestReadAgain(t *testing.T) {
	var b []byte
	for i, n := range edges() {
		b = nums.P(b, n)
		b = nums.PI(b, int64(n))
		b = nums.PI(b, -int64(n))
		b = nums.PBool(b, i%2 == 0)
		b = nums.PText(b, string(b[:i]))
		b = append(b, byte(i))
	}
	r := nums.New(string(b))
	for i, n := range edges() {
		u, e1 := r.U()
		plus, e2 := r.I()
		minus, e3 := r.I()
		is, e4 := r.Bool()
		s, e5 := r.Text(i)
		c, e6 := r.Byte()
		for _, err := range []error{e1, e2, e3, e4, e5, e6} {
			if err != nil {
				t.Fatal(i, err)
			}
		}
		if u != n || plus != int64(n) || minus != -int64(n) || is != (i%2 == 0) || s != string(b[:i]) || c != byte(i) {
			t.Fatal(i, n, u, plus, minus, is, s, c)
		}
	}
	if r.End() != nil || r.Place() != len(b) {
		t.Error(r.End(), r.Place())
	}
}

// numberBy reads a number as the chapter says, in big numbers; and how many bytes it has.
func numberBy(s string) (uint64, int, api.Errno) {
	n := new(big.Int)
	for i := range len(s) {
		n.Mul(n, big.NewInt(128)).Add(n, big.NewInt(int64(s[i]%128)))
		if s[i] < 128 {
			switch {
			case s[0] == 128:
				return 0, 0, api.ErrForm
			case i+1 > 10 || !n.IsUint64():
				return 0, 0, api.ErrLong
			}
			return n.Uint64(), i + 1, api.OK
		}
	}
	return 0, 0, api.ErrShort
}

// sameAgain fails if bytes are not read as the chapter says, or give other bytes when they are written.
func sameAgain(t *testing.T, s string) {
	t.Helper()
	want, size, code := numberBy(s)
	r := nums.New(s)
	n, err := r.U()
	if code != api.OK {
		if !samples.IsFault(err, code, 0) || n != 0 || r.Place() != 0 {
			t.Fatalf("%x: %d, %v; not %v", s, n, err, code)
		}
	} else if err != nil || n != want || r.Place() != size || string(nums.P(nil, n)) != s[:size] {
		t.Fatalf("%x: %d, %v, at %d; not %d", s, n, err, r.Place(), want)
	}
	r = nums.New(s)
	if i, err := r.I(); err == nil && (r.Place() != size || string(nums.PI(nil, i)) != s[:size]) || (err == nil) != (code == api.OK) {
		t.Fatalf("%x: %d, %v, at %d", s, i, err, r.Place())
	}
	r = nums.New(s)
	if is, err := r.Bool(); err == nil && string(nums.PBool(nil, is)) != s[:r.Place()] {
		t.Fatalf("%x: %v", s, is)
	}
	r = nums.New(s)
	if x, err := r.Text(len(s)); err == nil && string(nums.PText(nil, x)) != s[:r.Place()] {
		t.Fatalf("%x: %q", s, x)
	}
}

// P1.4, P1.2: each number has exactly one encoding: of all texts of two bytes, of longer ones of the bytes that matter, and around ten.
func TestOneEncoding(t *testing.T) {
	for _, s := range samples.Short(samples.EveryByte(), 2) {
		sameAgain(t, s)
	}
	for _, s := range samples.Short("\x00\x01\x7f\x80\x81\xff", 6) {
		sameAgain(t, s)
	}
	for _, head := range samples.Short("\x80\x81\x82\xff", 3) {
		for _, middle := range []string{"\x80\x80\x80\x80\x80\x80", "\xff\xff\xff\xff\xff\xff"} {
			for _, tail := range samples.Short("\x00\x7f\x80\xff", 4) {
				sameAgain(t, head+middle+tail)
			}
		}
	}
}

// P1: no call panics, and each ends, whatever the bytes and the most are; a fault comes with a zero value and leaves the reader as it was.
func TestAnyArguments(t *testing.T) {
	all := []reading{readU, readI, readByte, readBool}
	for _, most := range []int{math.MinInt, -1, 0, 1, 3, math.MaxInt} {
		all = append(all, readText(most))
	}
	for _, s := range samples.Short("\x00\x01\x02\x7f\x80\x81\xff", 4) {
		for _, x := range all {
			r := nums.New(s)
			for {
				place := r.Place()
				got, err := x.read(r)
				if err != nil {
					f, is := err.(*api.Fault)
					if !is || f.At != place || f.Code <= api.ErrNil || f.Code > api.ErrForm || got != x.zero || r.Place() != place {
						t.Fatalf("%s of %x: %v, %v, at %d", x.name, s, got, err, r.Place())
					}
					break
				}
				if r.Place() <= place || r.Place()+r.Left() != len(s) {
					t.Fatalf("%s of %x: at %d, %d left", x.name, s, r.Place(), r.Left())
				}
			}
		}
	}
}

// FuzzReader looks for bytes for which P1.2 or P1.4 doesn't hold.
func FuzzReader(f *testing.F) {
	for _, s := range []string{"", "\x00", "\x80\x01", "\x82", "\x82\x2c", "\x02ab", "\x82\x80\x80\x80\x80\x80\x80\x80\x80\x00"} {
		f.Add(s)
	}
	f.Fuzz(func(t *testing.T, s string) { sameAgain(t, s) })
}
