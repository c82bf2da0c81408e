package frame_test

import (
	"encoding/binary"
	"strings"
	"testing"

	"anabranch/api"
	"anabranch/frame"
	"anabranch/samples"
)

// frameOf is the chapter's term, with the length by the library: independent of the package.
func frameOf(body string) string {
	length := binary.BigEndian.AppendUint32(nil, uint32(len(body)))
	return "\xa5" + string(length[1:]) + body + "\x5a"
}

// P2.1: the examples of the chapter, and bodies that look like frames.
func TestPutExamples(t *testing.T) {
	for _, c := range []struct{ body, want string }{
		{"ab", "a5 00 00 02 61 62 5a"},
		{"", "a5 00 00 00 5a"},
		{"\x5a", "a5 00 00 01 5a 5a"},
		{"\xa5\x00\x00\x00\x5a", "a5 00 00 05 a5 00 00 00 5a 5a"},
		{"é", "a5 00 00 02 c3 a9 5a"},
		{"\xff\x80\x00", "a5 00 00 03 ff 80 00 5a"},
	} {
		if got, e := frame.Put(c.body); e != api.OK || got != samples.Hex(c.want) {
			t.Errorf("%x: %x, %v; not %s", c.body, got, e, c.want)
		}
	}
	all := samples.EveryByte()
	if got, e := frame.Put(all); e != api.OK || got != "\xa5\x00\x01\x00"+all+"\x5a" {
		t.Errorf("every byte: %x, %v", got, e)
	}
}

// P2.1: bodies of lengths around those where another byte of the length changes, up to the greatest one.
func TestPutLengths(t *testing.T) {
	for _, size := range []int{0, 1, 127, 128, 255, 256, 257, 65535, 65536, 65537, 0x012345, api.MaxBody - 1, api.MaxBody} {
		body := strings.Repeat("x", size)
		if got, e := frame.Put(body); e != api.OK || got != frameOf(body) {
			t.Errorf("%d bytes: %d bytes, %v", size, len(got), e)
		}
	}
}

// P2.1: a body that is too long has no frame.
func TestPutTooLong(t *testing.T) {
	for _, size := range []int{api.MaxBody + 1, 2 * api.MaxBody, 1 << 24} {
		if got, e := frame.Put(strings.Repeat("x", size)); e != api.ErrLong || got != "" {
			t.Errorf("%d bytes: %d bytes, %v", size, len(got), e)
		}
	}
}
