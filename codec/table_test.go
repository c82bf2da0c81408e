package codec_test

import (
	"math"
	"math/rand/v2"
	"reflect"
	"slices"
	"strings"
	"testing"

	"anabranch/api"
	"anabranch/codec"
	"anabranch/nums"
	"anabranch/samples"
)

// table is the chapter's, in its words; a message's parts are partsOf its kind.
var table = map[string]string{
	"a record":     "Key u, Time w, Val w, Side b, Err t, Late t",
	"an operator":  "Kind w, A w, B w, Agg w",
	"a command":    "Kind w, At w, Bins a list of w, To w, Node w, Op an operator, Mode w",
	"an item":      "IsMark t, Time w, Rec a record",
	"an aggregate": "N w, Hi w, Lo u, Min w, Max w",
	"an entry":     "Ver w, Key u, Start w, End w, Side b, Acc an aggregate",
	"a chunk":      "Bin w, Span w, Last t, Entries a list of an entry",
}

// partsOf returns the parts of a thing, and whether it is one: a message's kind may be none.
func partsOf(name string, kind int64) (string, bool) {
	if name != "a message" {
		return table[name], true
	}
	of := []string{"Rec a record", "Time w", "Num w", "Cmd a command", "Chunk a chunk"}
	if kind < 0 || kind >= int64(len(of)) {
		return "Kind w, Ver w", false
	}
	return "Kind w, Ver w, " + of[kind], true
}

// bytesBy returns a thing's bytes by the table: independent of the package.
func bytesBy(name string, x reflect.Value) []byte {
	switch name {
	case "w":
		return nums.PI(nil, x.Int())
	case "u":
		return nums.P(nil, x.Uint())
	case "b":
		return []byte{byte(x.Uint())}
	case "t":
		return nums.PBool(nil, x.Bool())
	}
	var b []byte
	if one, is := strings.CutPrefix(name, "a list of "); is {
		b = nums.P(nil, uint64(x.Len()))
		for i := range x.Len() {
			b = append(b, bytesBy(one, x.Index(i))...)
		}
		return b
	}
	var kind int64
	if name == "a message" {
		kind = x.FieldByName("Kind").Int()
	}
	parts, _ := partsOf(name, kind)
	for part := range strings.SplitSeq(parts, ", ") {
		field, of, _ := strings.Cut(part, " ")
		b = append(b, bytesBy(of, x.FieldByName(field))...)
	}
	return b
}

// input is read by the table, up to its first fault.
type input struct {
	s    string
	at   int
	code api.Errno
	bad  int // the fault's position
}

// fail is the input's fault, if there is none yet.
func (in *input) fail(code api.Errno, at int) {
	if in.code == api.OK {
		in.code, in.bad = code, at
	}
}

// some reads one of the things of chapter 1.
func some[T any](in *input, read func(*nums.Reader) (T, error)) (x T) {
	if in.code != api.OK {
		return x
	}
	r := nums.New(in.s[in.at:])
	x, err := read(r)
	if f, is := err.(*api.Fault); is {
		in.fail(f.Code, in.at+f.At)
	}
	in.at += r.Place()
	return x
}

// read sets x to the thing that is there.
func (in *input) read(name string, x reflect.Value) {
	at := in.at
	switch name {
	case "w":
		x.SetInt(some(in, (*nums.Reader).I))
		return
	case "u":
		n := some(in, (*nums.Reader).U)
		if x.Kind() == reflect.Uint32 && n > 1<<32-1 {
			in.fail(api.ErrLong, at)
		}
		x.SetUint(n)
		return
	case "b":
		x.SetUint(uint64(some(in, (*nums.Reader).Byte)))
		return
	case "t":
		x.SetBool(some(in, (*nums.Reader).Bool))
		return
	}
	if one, is := strings.CutPrefix(name, "a list of "); is {
		in.list(one, x)
		return
	}
	parts, is := partsOf(name, 0)
	for i := 0; i < len(strings.Split(parts, ", ")); i++ {
		field, of, _ := strings.Cut(strings.Split(parts, ", ")[i], " ")
		in.read(of, x.FieldByName(field))
		if name == "a message" && i == 0 {
			if parts, is = partsOf(name, x.FieldByName("Kind").Int()); !is {
				in.fail(api.ErrKind, at)
			}
		}
	}
}

// list sets x to the list of such things that is there.
func (in *input) list(one string, x reflect.Value) {
	at, most := in.at, uint64(64)
	if one == "w" {
		most = 8
	}
	n := some(in, (*nums.Reader).U)
	if n > most {
		in.fail(api.ErrLong, at)
	}
	for in.code == api.OK && n > 0 {
		x.Set(reflect.Append(x, reflect.Zero(x.Type().Elem())))
		in.read(one, x.Index(x.Len()-1))
		n--
	}
}

// thing is one of the chapter's eight, with its two functions.
type thing struct {
	name string
	of   reflect.Type
	put  func(b []byte, x reflect.Value) []byte
	get  func(r *nums.Reader) (any, error)
}

func thingOf[T any](name string, put func([]byte, T) []byte, get func(*nums.Reader) (T, error)) thing {
	return thing{
		name, reflect.TypeFor[T](),
		func(b []byte, x reflect.Value) []byte { return put(b, x.Interface().(T)) },
		func(r *nums.Reader) (any, error) { x, err := get(r); return x, err },
	}
}

var things = []thing{
	thingOf("a record", codec.PRec, codec.GRec),
	thingOf("an operator", codec.POp, codec.GOp),
	thingOf("a command", codec.PCmd, codec.GCmd),
	thingOf("an item", codec.PItem, codec.GItem),
	thingOf("an aggregate", codec.PAcc, codec.GAcc),
	thingOf("an entry", codec.PEntry, codec.GEntry),
	thingOf("a chunk", codec.PChunk, codec.GChunk),
	thingOf("a message", codec.PMsg, codec.GMsg),
}

// thingBy returns the thing with that name.
func thingBy(name string) thing {
	return things[slices.IndexFunc(things, func(x thing) bool { return x.name == name })]
}

// readerAt returns a reader that has consumed the first of these texts.
func readerAt(t *testing.T, before, s string) *nums.Reader {
	t.Helper()
	r := nums.New(before + s)
	for range len(before) {
		if _, err := r.Byte(); err != nil {
			t.Fatal(err)
		}
	}
	return r
}

// sameRead fails if what is there is not read as the chapter says: the thing, or the fault; what is consumed; and what is read is written again as it was.
func sameRead(t *testing.T, of thing, before, s string) {
	t.Helper()
	r := readerAt(t, before, s)
	want := reflect.New(of.of).Elem()
	in := &input{s: before + s, at: len(before)}
	in.read(of.name, want)
	x, err := of.get(r)
	if in.code != api.OK {
		want.SetZero()
	}
	if in.code == api.OK && err != nil || in.code != api.OK && !samples.IsFault(err, in.code, in.bad) {
		t.Fatalf("%s, %x from %d on: %v; not %v at %d", of.name, before+s, len(before), err, in.code, in.bad)
	}
	if !reflect.DeepEqual(x, want.Interface()) || r.Place() != in.at {
		t.Fatalf("%s, %x from %d on: %v, up to %d; not %v, up to %d", of.name, before+s, len(before), x, r.Place(), want, in.at)
	}
	if again := of.put(nil, reflect.ValueOf(x)); err == nil && string(again) != in.s[len(before):in.at] {
		t.Fatalf("%s, %x: written again it is %x", of.name, s, again)
	}
}

// filler fills things by chance, the same each time: with numbers where bytes change, and lists of up to so many elements.
type filler struct {
	*rand.Rand
	most int
}

func newFiller(most int) filler { return filler{rand.New(rand.NewPCG(3, 3)), most} }

// value returns a number of few bits or of many, or one at an edge.
func (f filler) value() int64 {
	edges := []int64{0, 1, -1, 63, -64, 64, -65, math.MaxUint32, math.MaxInt64, math.MinInt64}
	if i := f.IntN(2 * len(edges)); i < len(edges) {
		return edges[i]
	}
	return int64(f.Uint64() >> f.IntN(64))
}

// fill sets all that x has, whatever its kind needs: a message has all of its fields.
func (f filler) fill(x reflect.Value) {
	switch x.Kind() {
	case reflect.Bool:
		x.SetBool(f.IntN(2) == 1)
	case reflect.Int, reflect.Int64:
		x.SetInt(f.value())
	case reflect.Uint8, reflect.Uint32, reflect.Uint64:
		x.SetUint(uint64(f.value()) & (1<<x.Type().Bits() - 1))
	case reflect.Slice:
		n := f.IntN(f.most + 1)
		x.Set(reflect.MakeSlice(x.Type(), n, n))
		for i := range n {
			f.fill(x.Index(i))
		}
	case reflect.Struct:
		for i := range x.NumField() {
			f.fill(x.Field(i))
		}
	}
}

// filled returns such a thing; a message mostly of a kind that exists.
func (f filler) filled(of thing) reflect.Value {
	x := reflect.New(of.of).Elem()
	f.fill(x)
	if of.name == "a message" {
		x.FieldByName("Kind").SetInt(int64(f.IntN(7)) - 1)
	}
	return x
}
