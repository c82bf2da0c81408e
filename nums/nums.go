// Package nums is layer 1: numbers in as few bytes as they need, in one way; see shared/doc/01-nums.md.
package nums

import (
	"strings"

	"anabranch/api"
)

// digits has room for the digits, in base 128, of the greatest number.
type digits [10]byte

// of writes n's digits from the end on, as only then it is known how many there are. What it returns is a part of d.
func (d *digits) of(n uint64) []byte {
	at := len(d) - 1
	d[at] = byte(n & 127)
	for n >>= 7; n != 0; n >>= 7 {
		at--
		d[at] = byte(n&127) | 128
	}
	return d[at:len(d):len(d)]
}

// after returns b, followed by the digits and the text. It is new, so that two results of one b never overwrite each other.
func after(b, number []byte, text string) []byte {
	out := make([]byte, 0, len(b)+len(number)+len(text))
	out = append(out, b...)
	out = append(out, number...)
	return append(out, text...)
}

// P returns b, followed by n's bytes.
func P(b []byte, n uint64) []byte {
	var d digits
	return after(b, d.of(n), "")
}

// PI returns b, followed by the bytes of the integer n.
func PI(b []byte, n int64) []byte {
	return P(b, uint64(n)<<1^uint64(n>>63))
}

// PBool returns b, followed by the byte of is.
func PBool(b []byte, is bool) []byte {
	if is {
		return P(b, 1)
	}
	return P(b, 0)
}

// PText returns b, followed by the bytes of the text s.
func PText(b []byte, s string) []byte {
	var d digits
	return after(b, d.of(uint64(len(s))), s)
}

// Reader reads s, from at on.
type Reader struct {
	s  string
	at int
}

// New returns a reader of s, at its beginning.
func New(s string) *Reader { return &Reader{s: s} }

// take reads one thing. A thing that can't be read panics with its error's number wherever that is found; here its position is the one before it, and nothing of it is consumed.
func take[T any](r *Reader, thing func(*Reader) T) (x T, err error) {
	if r == nil {
		return x, &api.Fault{Code: api.ErrNil}
	}
	at := r.at
	defer func() {
		if p := recover(); p != nil {
			code, _ := p.(api.Errno) // nothing else is raised
			r.at, err = at, &api.Fault{Code: code, At: at}
		}
	}()
	return thing(r), nil
}

// number consumes a number.
func (r *Reader) number() uint64 {
	last := r.at
	for last < len(r.s) && r.s[last] >= 128 {
		last++
	}
	if last == len(r.s) {
		panic(api.ErrShort)
	}
	if r.s[r.at] == 128 {
		panic(api.ErrForm)
	}
	var n uint64
	for ; r.at <= last; r.at++ {
		if n>>57 != 0 { // also if there are more than ten digits, as the first one isn't 0
			panic(api.ErrLong)
		}
		n = n<<7 | uint64(r.s[r.at]&127)
	}
	return n
}

// integer consumes an integer.
func (r *Reader) integer() int64 {
	n := r.number()
	return int64(n>>1) ^ -int64(n&1)
}

// octet consumes a byte.
func (r *Reader) octet() byte {
	if r.at == len(r.s) {
		panic(api.ErrShort)
	}
	r.at++
	return r.s[r.at-1]
}

// truth consumes a truth value.
func (r *Reader) truth() bool {
	c := r.octet()
	if c > 1 {
		panic(api.ErrForm)
	}
	return c == 1
}

// text consumes a text of at most that many bytes. It is copied, so that it does not keep all of s alive.
func (r *Reader) text(most int) string {
	if most < 0 {
		panic(api.ErrArg)
	}
	n := r.number()
	if n > uint64(most) {
		panic(api.ErrLong)
	}
	if n > uint64(r.Left()) {
		panic(api.ErrShort)
	}
	from := r.at
	r.at += int(n)
	return strings.Clone(r.s[from:r.at])
}

// U reads a number.
func (r *Reader) U() (uint64, error) { return take(r, (*Reader).number) }

// I reads an integer.
func (r *Reader) I() (int64, error) { return take(r, (*Reader).integer) }

// Byte reads a byte.
func (r *Reader) Byte() (byte, error) { return take(r, (*Reader).octet) }

// Bool reads a truth value.
func (r *Reader) Bool() (bool, error) { return take(r, (*Reader).truth) }

// Text reads a text of at most that many bytes.
func (r *Reader) Text(most int) (string, error) {
	return take(r, func(r *Reader) string { return r.text(most) })
}

// Place returns how many bytes were consumed.
func (r *Reader) Place() int {
	if r == nil {
		return 0
	}
	return r.at
}

// Left returns how many bytes are left.
func (r *Reader) Left() int {
	if r == nil {
		return 0
	}
	return len(r.s) - r.at
}

// End returns a fault if bytes are left.
func (r *Reader) End() error {
	if r == nil {
		return &api.Fault{Code: api.ErrNil}
	}
	if r.Left() > 0 {
		return &api.Fault{Code: api.ErrLong, At: r.at}
	}
	return nil
}
