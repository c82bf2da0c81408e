package codec_test

import (
	"math"
	"reflect"
	"slices"
	"strings"
	"testing"

	"anabranch/api"
	"anabranch/codec"
	"anabranch/samples"
)

// Things of which each part is another one, and their bytes.
var (
	aRec   = api.Rec{Key: 300, Time: -2, Val: 64, Side: 200, Late: true}
	anOp   = api.Op{Kind: 5, A: 12, B: -3, Agg: 2}
	aCmd   = api.Cmd{Kind: 3, At: 9, Bins: []int{4, -64}, To: 5, Node: 6, Op: anOp, Mode: 1}
	anItem = api.Item{IsMark: true, Time: 7, Rec: aRec}
	anAcc  = api.Acc{N: 4, Hi: -1, Lo: 128, Min: -9, Max: 8}
	anEnt  = api.Entry{Ver: 1, Key: 2, Start: 3, End: 4, Side: 5, Acc: anAcc}
	aChunk = api.Chunk{Bin: 7, Span: 6, Last: true, Entries: []api.Entry{anEnt, {}}}
)

const (
	recHex   = "82 2c 03 81 00 c8 00 01"
	opHex    = "0a 18 05 04"
	cmdHex   = "06 12 02 08 7f 0a 0c" + opHex + "02"
	itemHex  = "01 0e" + recHex
	accHex   = "08 01 81 00 11 10"
	entHex   = "02 02 06 08 05" + accHex
	chunkHex = "0e 0c 01 02" + entHex + "00 00 00 00 00 00 00 00 00 00"
)

// examples are the chapter's, and one of each thing: what is read; what has the same bytes, if something else does; these.
var examples = []struct {
	name    string
	x, same any
	bytes   string
}{
	{"a record", api.Rec{Key: 5, Time: 3, Val: -1, Side: 1}, nil, "05 06 01 01 00 00"},
	{"a message", api.Msg{Kind: api.MsgMark, Ver: 2, Time: 100}, nil, "02 04 81 48"},
	{"a chunk", api.Chunk{Bin: 1, Span: 2, Last: true}, nil, "02 04 01 00"},
	{"an aggregate", api.Acc{N: 1, Lo: 7, Min: 7, Max: 7}, nil, "02 00 07 0e 0e"},
	{"a record", aRec, nil, recHex},
	{"a record", api.Rec{Key: math.MaxUint32, Side: 255, Err: true}, nil, "8f ff ff ff 7f 00 00 ff 01 00"},
	{"an operator", anOp, nil, opHex},
	{"a command", aCmd, nil, cmdHex},
	{"a command", api.Cmd{Kind: -1}, nil, "01 00 00 00 00 00 00 00 00 00"},
	{"an item", anItem, nil, itemHex},
	{"an aggregate", anAcc, nil, accHex},
	{"an aggregate", api.Acc{Lo: math.MaxUint64}, nil, "00 00 81 ff ff ff ff ff ff ff ff 7f 00 00"},
	{"an entry", anEnt, nil, entHex},
	{"a chunk", aChunk, nil, chunkHex},
	{"a message", api.Msg{Ver: 3, Rec: aRec}, full(api.MsgRec), "00 06" + recHex},
	{"a message", api.Msg{Kind: api.MsgMark, Ver: 3, Time: 11}, full(api.MsgMark), "02 06 16"},
	{"a message", api.Msg{Kind: api.MsgBar, Ver: 3, Num: 12}, full(api.MsgBar), "04 06 18"},
	{"a message", api.Msg{Kind: api.MsgCmd, Ver: 3, Cmd: aCmd}, full(api.MsgCmd), "06 06" + cmdHex},
	{"a message", api.Msg{Kind: api.MsgPart, Ver: 3, Chunk: aChunk}, full(api.MsgPart), "08 06" + chunkHex},
}

// full returns a message of that kind that has what all kinds have.
func full(kind int) api.Msg {
	return api.Msg{Kind: kind, Ver: 3, Rec: aRec, Time: 11, Num: 12, Cmd: aCmd, Chunk: aChunk}
}

// P3.1: the examples.
func TestWrittenExamples(t *testing.T) {
	for _, c := range examples {
		for _, x := range []any{c.x, c.same} {
			if x == nil {
				continue
			}
			if got := thingBy(c.name).put(nil, reflect.ValueOf(x)); string(got) != samples.Hex(c.bytes) {
				t.Errorf("%s %v: %x, not %s", c.name, x, got, c.bytes)
			}
		}
	}
}

// P3.1: zero values, and any others, as the table says.
func TestWrittenByTheTable(t *testing.T) {
	f := newFiller(3)
	for _, of := range things {
		all := []reflect.Value{reflect.New(of.of).Elem()}
		for range 2000 {
			all = append(all, f.filled(of))
		}
		for _, x := range all {
			if got, want := of.put(nil, x), bytesBy(of.name, x); string(got) != string(want) {
				t.Fatalf("%s %v: %x, not %x", of.name, x, got, want)
			}
		}
	}
}

// P3.1: a message of a kind that does not exist has its kind and version only.
func TestWrittenOtherKinds(t *testing.T) {
	for _, c := range []struct {
		kind int
		want string
	}{
		{-1, "01 06"},
		{5, "0a 06"},
		{math.MaxInt, "81 ff ff ff ff ff ff ff ff 7e 06"},
		{math.MinInt, "81 ff ff ff ff ff ff ff ff 7f 06"},
	} {
		if got := codec.PMsg(nil, full(c.kind)); string(got) != samples.Hex(c.want) {
			t.Errorf("kind %d: %x, not %s", c.kind, got, c.want)
		}
	}
}

// P3.1: lists that are too long to be read are written all the same, also very long ones (P1: it ends).
func TestWrittenLongLists(t *testing.T) {
	for _, size := range []int{8, 9, 64, 65, 127, 128, 300, 100000} {
		number := string(bytesBy("u", reflect.ValueOf(uint(size))))
		got := codec.PCmd(nil, api.Cmd{Bins: make([]int, size)})
		if want := "\x00\x00" + number + strings.Repeat("\x00", size+7); string(got) != want {
			t.Errorf("%d bins: %d bytes, not %d", size, len(got), len(want))
		}
		got = codec.PChunk(nil, api.Chunk{Entries: make([]api.Entry, size)})
		if want := "\x00\x00\x00" + number + strings.Repeat("\x00", 10*size); string(got) != want {
			t.Errorf("%d entries: %d bytes, not %d", size, len(got), len(want))
		}
	}
}

// P3.1: the result begins with b, and is new.
func TestWrittenAfterB(t *testing.T) {
	for _, c := range examples {
		put := func(b []byte) []byte { return thingBy(c.name).put(b, reflect.ValueOf(c.x)) }
		want := samples.Hex(c.bytes)
		for _, b := range [][]byte{nil, {}, make([]byte, 0, 200), []byte("x"), []byte("head")} {
			if got := put(b); string(got) != string(b)+want {
				t.Errorf("%s after %q: %x", c.name, b, got)
			}
		}
		room := []byte("head" + strings.Repeat("REST", 100))
		first := put(room[:4])
		if string(room) != "head"+strings.Repeat("REST", 100) {
			t.Errorf("%s was written into b's capacity: %q", c.name, room)
		}
		room[0] = '!'
		if string(first) != "head"+want {
			t.Errorf("%s: the result changes with b: %q", c.name, first)
		}
		first[1] = '?'
		if string(room[:4]) != "!ead" {
			t.Errorf("%s: b changes with the result: %q", c.name, room[:4])
		}
		long := append(first, "tail"...)
		if again := append(put(first), "more"...); string(long[len(first):]) != "tail" {
			t.Errorf("%s: a result wrote into another's capacity: %x, %x", c.name, long, again)
		}
	}
}

// What is written stays as it is.
func TestWrittenIsUnchanged(t *testing.T) {
	bins, entries := []int{1, 2, -3}, []api.Entry{anEnt, {Key: 9}}
	codec.PCmd(nil, api.Cmd{Bins: bins})
	codec.PChunk(nil, api.Chunk{Entries: entries})
	codec.PMsg(nil, api.Msg{Kind: api.MsgCmd, Cmd: api.Cmd{Bins: bins}})
	codec.PMsg(nil, api.Msg{Kind: api.MsgPart, Chunk: api.Chunk{Entries: entries}})
	if !slices.Equal(bins, []int{1, 2, -3}) || !slices.Equal(entries, []api.Entry{anEnt, {Key: 9}}) {
		t.Error(bins, entries)
	}
}
