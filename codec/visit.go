package codec

import (
	"math"
	"slices"

	"anabranch/api"
	"anabranch/nums"
)

// visitor visits a thing's parts, one after the other. One that writes changes none of them, one that reads sets each: so a thing has one list of parts for both.
type visitor interface {
	number(n *uint64)
	integer(n *int64)
	whole(n *int)
	octet(c *byte)
	truth(is *bool)
	key(k *uint32)
	kind(k *int)             // of a message
	count(has, most int) int // of a list that has so many elements, and may have at most so many; it returns how many it should have
}

// list visits the number of a list's elements, and these. A list is made only where one that reads knows of more elements than there are, so that one that is written stays the caller's.
func list[T any](v visitor, l *[]T, most int, one func(visitor, *T)) {
	if n := v.count(len(*l), most); n > len(*l) {
		*l = make([]T, n)
	}
	for i := range *l {
		one(v, &(*l)[i])
	}
}

// writer writes the parts after b, whatever they are.
type writer struct{ b []byte }

// put returns b, followed by a thing's parts. It is new, so that two results of one b never overwrite each other.
func put[T any](b []byte, x *T, parts func(visitor, *T)) []byte {
	w := &writer{slices.Clone(b)}
	parts(w, x)
	return w.b
}

// add appends one part's bytes, which were made alone: nums would copy all those ahead of them each time.
func (w *writer) add(part []byte) { w.b = append(w.b, part...) }

func (w *writer) number(n *uint64) { w.add(nums.P(nil, *n)) }

func (w *writer) integer(n *int64) { w.add(nums.PI(nil, *n)) }

func (w *writer) whole(n *int) { w.add(nums.PI(nil, int64(*n))) }

func (w *writer) octet(c *byte) { w.b = append(w.b, *c) }

func (w *writer) truth(is *bool) { w.add(nums.PBool(nil, *is)) }

func (w *writer) key(k *uint32) { w.add(nums.P(nil, uint64(*k))) }

func (w *writer) kind(k *int) { w.whole(k) }

func (w *writer) count(has, most int) int {
	w.add(nums.P(nil, uint64(has)))
	return has
}

// reader reads the parts; the first fault is raised by a panic, and ends the reading of all that is around.
type reader struct{ *nums.Reader }

// get returns the thing that is read, whole; of one with a fault nothing.
func get[T any](r *nums.Reader, parts func(visitor, *T)) (x T, err error) {
	defer func() {
		if f, is := recover().(*api.Fault); is { // nothing else is raised
			err = f
		}
	}()
	var whole T
	parts(reader{r}, &whole)
	return whole, nil
}

// must returns what was read; it raises the fault, if there is one.
func must[T any](x T, err error) T {
	if err != nil {
		panic(err)
	}
	return x
}

func (r reader) number(n *uint64) { *n = must(r.U()) }

func (r reader) integer(n *int64) { *n = must(r.I()) }

func (r reader) whole(n *int) { *n = int(must(r.I())) }

func (r reader) octet(c *byte) { *c = must(r.Byte()) }

func (r reader) truth(is *bool) { *is = must(r.Bool()) }

func (r reader) key(k *uint32) { *k = uint32(r.upTo(math.MaxUint32)) }

func (r reader) kind(k *int) {
	at := r.Place()
	r.whole(k)
	if *k < api.MsgRec || *k > api.LastMsg {
		panic(&api.Fault{Code: api.ErrKind, At: at})
	}
}

func (r reader) count(has, most int) int { return int(r.upTo(uint64(most))) }

// upTo reads a number; it raises a fault if that is too great.
func (r reader) upTo(most uint64) uint64 {
	at := r.Place()
	n := must(r.U())
	if n > most {
		panic(&api.Fault{Code: api.ErrLong, At: at})
	}
	return n
}
