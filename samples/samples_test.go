package samples_test

import (
	"math"
	"slices"
	"testing"

	"anabranch/api"
	"anabranch/samples"
)

func TestHex(t *testing.T) {
	if s := samples.Hex("a5 00 62ff"); s != "\xa5\x00b\xff" {
		t.Errorf("%x", s)
	}
	if s := samples.Hex(""); s != "" {
		t.Errorf("%x", s)
	}
}

// A test with wrong digits must not pass unseen.
func TestHexWrong(t *testing.T) {
	for _, digits := range []string{"a", "a5 0", "zz", "+1", "a5\n00"} {
		func() {
			defer func() {
				if recover() == nil {
					t.Errorf("%q is taken", digits)
				}
			}()
			samples.Hex(digits)
		}()
	}
}

func TestShort(t *testing.T) {
	if all := samples.Short("ab", 2); !slices.Equal(all, []string{"", "a", "b", "aa", "ab", "ba", "bb"}) {
		t.Errorf("%q", all)
	}
	if all := samples.Short("ab", 0); !slices.Equal(all, []string{""}) {
		t.Errorf("%q", all)
	}
}

func TestLists(t *testing.T) {
	all := samples.Lists([]int{5, 7}, 2)
	if want := [][]int{nil, {5}, {7}, {5, 5}, {5, 7}, {7, 5}, {7, 7}}; !slices.EqualFunc(all, want, slices.Equal[[]int]) {
		t.Errorf("%d", all)
	}
}

func TestEveryOp(t *testing.T) {
	kinds, of := map[int]int{}, map[[2]int64]int{}
	for op := range samples.EveryOp([]int64{3, -4}) {
		kinds[op.Kind]++
		of[[2]int64{op.A, op.B}]++
	}
	for kind := -1; kind <= api.LastOp+1; kind++ {
		if kinds[kind] != 4*8 {
			t.Errorf("%d: %d times", kind, kinds[kind])
		}
	}
	if len(of) != 4 || of[[2]int64{3, -4}] != of[[2]int64{-4, 3}] {
		t.Errorf("%d", of)
	}
	for op := range samples.EveryOp(samples.Edges()) { // it may be left
		if op.A != samples.Edges()[0] {
			break
		}
	}
}

func TestNumbers(t *testing.T) {
	for _, n := range []int64{math.MinInt64, math.MaxInt64, 1 << 30, 1<<30 + 1, 1<<32 - 1, 1 << 32} {
		if !slices.Contains(samples.Edges(), n) {
			t.Errorf("no %d", n)
		}
	}
	if l := samples.Small(); len(l) != 28 || l[0] != -3 || l[27] != 24 {
		t.Errorf("%d", l)
	}
}

func TestEveryByte(t *testing.T) {
	s := samples.EveryByte()
	for i := range len(s) {
		if len(s) != 256 || s[i] != byte(i) {
			t.Fatalf("%x", s)
		}
	}
}

func TestIsFault(t *testing.T) {
	var none *api.Fault
	for _, c := range []struct {
		err  error
		want bool
	}{
		{&api.Fault{Code: api.ErrForm, At: 3}, true},
		{&api.Fault{Code: api.ErrForm, At: 2}, false},
		{&api.Fault{Code: api.ErrLong, At: 3}, false},
		{api.ErrForm, false},
		{none, false},
		{nil, false},
	} {
		if got := samples.IsFault(c.err, api.ErrForm, 3); got != c.want {
			t.Errorf("%#v: %v", c.err, got)
		}
	}
}
