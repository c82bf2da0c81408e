package codec_test

import (
	"reflect"
	"testing"

	"anabranch/api"
	"anabranch/codec"
	"anabranch/nums"
	"anabranch/samples"
)

// sent returns what is read of a thing that was written: of a message only what its kind has; nothing, if that does not exist.
func sent(x any) any {
	m, is := x.(api.Msg)
	if !is {
		return x
	}
	only := api.Msg{Kind: m.Kind, Ver: m.Ver}
	switch m.Kind {
	case api.MsgRec:
		only.Rec = m.Rec
	case api.MsgMark:
		only.Time = m.Time
	case api.MsgBar:
		only.Num = m.Num
	case api.MsgCmd:
		only.Cmd = m.Cmd
	case api.MsgPart:
		only.Chunk = m.Chunk
	default:
		return nil
	}
	return only
}

// P3.3: what was written, one thing after the other, is read again, with lists up to the longest ones.
func TestReadAgain(t *testing.T) {
	for _, most := range []int{0, 1, 8} {
		f := newFiller(most)
		for range 300 {
			var b []byte
			var all []any
			for _, of := range things {
				x := f.filled(of)
				b = of.put(b, x)
				all = append(all, sent(x.Interface()))
			}
			r := nums.New(string(b))
			for i, of := range things {
				got, err := of.get(r)
				switch {
				case all[i] == nil: // the message, which is the last one
					if !samples.IsFault(err, api.ErrKind, r.Place()-1) {
						t.Fatal(err)
					}
				case err != nil || !alike(got, all[i]):
					t.Fatalf("%s %v: %v, %v", of.name, all[i], got, err)
				}
			}
			if last := all[len(all)-1]; last != nil && r.End() != nil {
				t.Fatal(last, r.End())
			}
		}
	}
}

// alike tells whether two things are the same; no list is the same as one without elements.
func alike(a, b any) bool {
	return reflect.DeepEqual(bare(reflect.ValueOf(a)).Interface(), bare(reflect.ValueOf(b)).Interface())
}

// bare returns x without lists that have no elements.
func bare(x reflect.Value) reflect.Value {
	out := reflect.New(x.Type()).Elem()
	out.Set(x)
	for i := range out.NumField() {
		switch f := out.Field(i); {
		case f.Kind() == reflect.Slice && f.Len() == 0:
			f.SetZero()
		case f.Kind() == reflect.Struct:
			f.Set(bare(f))
		}
	}
	return out
}

// P3.3: 64 entries are read again.
func TestReadLongestAgain(t *testing.T) {
	f := newFiller(0)
	x := api.Msg{Kind: api.MsgPart, Chunk: api.Chunk{Bin: 1, Span: 2}}
	for range 64 {
		x.Chunk.Entries = append(x.Chunk.Entries, f.filled(thingBy("an entry")).Interface().(api.Entry))
	}
	got, err := codec.GMsg(nums.New(string(codec.PMsg(nil, x))))
	if err != nil || !reflect.DeepEqual(got, x) {
		t.Error(got, err)
	}
}

// P3.3, P3.2, P1: all texts of two bytes, and longer ones of the bytes that matter, are read as the table says, and written again as they were.
func TestReadShort(t *testing.T) {
	for _, of := range things {
		for _, s := range samples.Short(samples.EveryByte(), 2) {
			sameRead(t, of, "", s)
		}
		for _, s := range samples.Short("\x00\x01\x02\x80\x90", 6) {
			sameRead(t, of, "", s)
		}
		for _, s := range samples.Short("\x00\x01\x08\x09", 6) {
			sameRead(t, of, "\x06", s)
			sameRead(t, of, "", s+"\x00\x01\x00\x00\x01\x00\x00\x00\x01")
		}
	}
}

// FuzzRead looks for bytes that are not read as the table says.
func FuzzRead(f *testing.F) {
	for _, c := range examples {
		f.Add(samples.Hex(c.bytes))
	}
	for _, c := range faults {
		f.Add(samples.Hex(c.bytes))
	}
	f.Fuzz(func(t *testing.T, s string) {
		for _, of := range things {
			sameRead(t, of, "", s)
		}
	})
}
