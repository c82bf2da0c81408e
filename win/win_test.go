package win_test

import (
	"math"
	"slices"
	"testing"

	"anabranch/api"
	"anabranch/oper"
	"anabranch/samples"
	"anabranch/win"
)

// window is a beginning and an end.
type window = [2]int64

const forever = 1 << 60

// P6.1: the examples, and others.
func TestOfExamples(t *testing.T) {
	tumble, most := api.Op{Kind: api.OpTumble, A: 10}, api.Op{Kind: api.OpTumble, A: 1 << 30}
	six, three := api.Op{Kind: api.OpSlide, A: 6, B: 2}, api.Op{Kind: api.OpSlide, A: 6, B: 3}
	session := api.Op{Kind: api.OpSession, A: 4}
	for _, c := range []struct {
		op   api.Op
		t    int64
		want []window
	}{
		{tumble, 25, []window{{20, 30}}},
		{tumble, -1, []window{{-10, 0}}},
		{tumble, 0, []window{{0, 10}}},
		{tumble, 9, []window{{0, 10}}},
		{tumble, 10, []window{{10, 20}}},
		{tumble, -10, []window{{-10, 0}}},
		{tumble, -11, []window{{-20, -10}}},
		{api.Op{Kind: api.OpTumble, A: 10, Agg: api.LastAgg}, 25, []window{{20, 30}}},
		{api.Op{Kind: api.OpTumble, A: 1}, -3, []window{{-3, -2}}},
		{most, -1, []window{{-1 << 30, 0}}},
		{most, forever, []window{{forever, forever + 1<<30}}},
		{most, -forever, []window{{-forever, -forever + 1<<30}}},
		{six, 5, []window{{0, 6}, {2, 8}, {4, 10}}},
		{six, 6, []window{{2, 8}, {4, 10}, {6, 12}}},
		{six, 0, []window{{-4, 2}, {-2, 4}, {0, 6}}},
		{six, -forever, []window{{-forever - 4, -forever + 2}, {-forever - 2, -forever + 4}, {-forever, -forever + 6}}},
		{three, -1, []window{{-6, 0}, {-3, 3}}},
		{three, -3, []window{{-6, 0}, {-3, 3}}},
		{three, -4, []window{{-9, -3}, {-6, 0}}},
		{api.Op{Kind: api.OpSlide, A: 5, B: 5}, -1, []window{{-5, 0}}},
		{api.Op{Kind: api.OpSlide, A: 1, B: 1}, 7, []window{{7, 8}}},
		{api.Op{Kind: api.OpSlide, A: 4, B: 1}, 0, []window{{-3, 1}, {-2, 2}, {-1, 3}, {0, 4}}},
		{session, 9, []window{{9, 13}}},
		{session, -9, []window{{-9, -5}}},
		{session, forever, []window{{forever, forever + 4}}},
		{session, -forever, []window{{-forever, -forever + 4}}},
	} {
		if got := win.Of(c.op, c.t); !slices.Equal(got, c.want) {
			t.Errorf("%+v at %d: %d, not %d", c.op, c.t, got, c.want)
		}
	}
}

// P6.1: no windows of an operator that is not valid, or of another class, at any time.
func TestOfNoWindows(t *testing.T) {
	for _, op := range []api.Op{
		{},
		{Kind: api.OpTumble},
		{Kind: api.OpTumble, A: -10},
		{Kind: api.OpTumble, A: 1<<30 + 1},
		{Kind: api.OpTumble, A: 10, B: 1},
		{Kind: api.OpTumble, A: 10, Agg: 4},
		{Kind: api.OpTumble, A: 10, Agg: -1},
		{Kind: api.OpSlide, A: 6},
		{Kind: api.OpSlide, B: 2},
		{Kind: api.OpSlide, A: 6, B: -2},
		{Kind: api.OpSlide, A: 6, B: 4},
		{Kind: api.OpSlide, A: 10, B: 2},
		{Kind: api.OpSession},
		{Kind: api.OpSession, A: 4, B: 4},
		{Kind: api.OpJoin, A: 4},
		{Kind: api.OpMap, A: 4},
		{Kind: api.OpKey, A: 4},
		{Kind: api.OpFilter, A: 4},
		{Kind: api.OpFlat, A: 2},
		{Kind: -1, A: 4},
		{Kind: 8, A: 4},
	} {
		for _, at := range []int64{0, -1, 9, forever} {
			if got := win.Of(op, at); len(got) != 0 {
				t.Errorf("%+v at %d: %d", op, at, got)
			}
		}
	}
}

// P6.1: no windows at a time beyond Forever, on both sides.
func TestOfNoTime(t *testing.T) {
	for _, op := range []api.Op{{Kind: api.OpTumble, A: 1}, {Kind: api.OpSlide, A: 4, B: 2}, {Kind: api.OpSession, A: 1 << 30}} {
		for _, at := range []int64{forever + 1, -forever - 1, math.MaxInt64, math.MinInt64, 1 << 61, -1 << 61} {
			if got := win.Of(op, at); len(got) != 0 {
				t.Errorf("%+v at %d: %d", op, at, got)
			}
		}
		for _, at := range []int64{forever, -forever} {
			if got := win.Of(op, at); len(got) == 0 {
				t.Errorf("%+v has no windows at %d", op, at)
			}
		}
	}
}

// multiples returns, of the windows of that size that begin at each multiple of a step, those that contain t: one after the other is looked at.
func multiples(size, step, t int64) []window {
	var all []window
	for n := t/step - 6; n <= t/step+6; n++ {
		if s := n * step; s <= t && t < s+size {
			all = append(all, window{s, s + size})
		}
	}
	return all
}

// windowsOf returns the windows of an operator at t, as the chapter says.
func windowsOf(op api.Op, t int64) []window {
	if oper.Check(op) != api.OK || t < -forever || t > forever {
		return nil
	}
	switch op.Kind {
	case 4:
		return multiples(op.A, op.A, t)
	case 5:
		return multiples(op.A, op.B, t)
	case 6:
		return []window{{t, t + op.A}}
	}
	return nil
}

// far are times at edges, and beside them.
func far() []int64 {
	all := []int64{math.MinInt64, math.MaxInt64}
	for _, n := range []int64{0, 1 << 30, 1 << 40, forever - 1<<30, forever} {
		for _, by := range []int64{-1, 0, 1} {
			all = append(all, n+by, -n+by)
		}
	}
	return all
}

// P6.1, P1: any operator, at any time.
func TestOfAny(t *testing.T) {
	for _, numbers := range [][]int64{samples.Edges(), samples.Small()} {
		for op := range samples.EveryOp(numbers) {
			for _, at := range append(far(), numbers...) {
				if op.Agg != 0 && op.Agg != 4 {
					continue // as many again
				}
				if got, want := win.Of(op, at), windowsOf(op, at); !slices.Equal(got, want) {
					t.Fatalf("%+v at %d: %d, not %d", op, at, got, want)
				}
			}
		}
	}
}

// P6.4: a time is in exactly one window of a Tumble, in A divided by B of a Slide, of all that there are around it.
func TestOfInHowMany(t *testing.T) {
	for op := range samples.EveryOp(samples.Small()) {
		if oper.Check(op) != api.OK || op.Agg != 0 || op.Kind != api.OpTumble && op.Kind != api.OpSlide {
			continue
		}
		times := map[window]int{}
		for at := int64(-60); at < 60; at++ {
			for _, w := range win.Of(op, at) {
				times[w]++
			}
		}
		for at := int64(-20); at < 20; at++ {
			want, in := op.A/max(op.B, 1), 0
			if op.Kind == api.OpTumble {
				want = 1
			}
			for w := range times {
				if w[0] <= at && at < w[1] {
					in++
				}
			}
			if got := win.Of(op, at); int64(len(got)) != want || in != len(got) || int64(times[got[0]]) != op.A {
				t.Fatalf("%+v at %d: in %d of all windows; %d", op, at, in, got)
			}
		}
	}
}

// P6.2: the examples, and pairs that are not windows.
func TestMeet(t *testing.T) {
	for _, c := range []struct {
		a, b window
		want bool
	}{
		{window{0, 3}, window{3, 5}, false},
		{window{0, 4}, window{3, 5}, true},
		{window{0, 9}, window{3, 5}, true},
		{window{3, 5}, window{3, 5}, true},
		{window{-9, -5}, window{3, 5}, false},
		{window{math.MinInt64, math.MaxInt64}, window{0, 1}, true},
		{window{math.MinInt64, math.MinInt64 + 1}, window{math.MaxInt64 - 1, math.MaxInt64}, false},
		{window{4, 4}, window{3, 5}, true},  // each begins below the other one's end
		{window{4, 4}, window{4, 4}, false}, // but not below its own
		{window{9, 4}, window{3, 5}, false},
		{window{5, 3}, window{5, 3}, false},
	} {
		if win.Meet(c.a, c.b) != c.want || win.Meet(c.b, c.a) != c.want {
			t.Errorf("%d, %d: not %v", c.a, c.b, c.want)
		}
	}
}

// pairs returns all pairs of these numbers, windows or not.
func pairs(numbers ...int64) []window {
	var all []window
	for _, a := range numbers {
		for _, b := range numbers {
			all = append(all, window{a, b})
		}
	}
	return all
}

// P6.2, P1: any two pairs.
func TestMeetAndJoinAny(t *testing.T) {
	all := pairs(math.MinInt64, math.MinInt64+1, -3, 0, 1, 2, math.MaxInt64-1, math.MaxInt64)
	for _, a := range all {
		for _, b := range all {
			if got, want := win.Meet(a, b), a[0] < b[1] && b[0] < a[1]; got != want {
				t.Errorf("Meet of %d, %d: %v", a, b, got)
			}
			starts, ends := []int64{a[0], b[0]}, []int64{a[1], b[1]}
			slices.Sort(starts)
			slices.Sort(ends)
			if got, want := win.Join(a, b), (window{starts[0], ends[1]}); got != want {
				t.Errorf("Join of %d, %d: %d, not %d", a, b, got, want)
			}
		}
	}
}

// P6.2: a union, of windows that meet and of others.
func TestJoin(t *testing.T) {
	for _, c := range []struct{ a, b, want window }{
		{window{0, 4}, window{3, 5}, window{0, 5}},
		{window{0, 9}, window{3, 5}, window{0, 9}},
		{window{0, 3}, window{7, 9}, window{0, 9}},
		{window{-2, -2}, window{0, -5}, window{-2, -2}},
		{window{5, 3}, window{4, 1}, window{4, 3}},
	} {
		if win.Join(c.a, c.b) != c.want || win.Join(c.b, c.a) != c.want {
			t.Errorf("%d, %d: not %d", c.a, c.b, c.want)
		}
	}
}

// What Of returns is the caller's.
func TestOfIsNew(t *testing.T) {
	op := api.Op{Kind: api.OpSlide, A: 6, B: 2}
	first := win.Of(op, 5)
	for i := range first {
		first[i] = window{99, 100}
	}
	if got, want := win.Of(op, 5), []window{{0, 6}, {2, 8}, {4, 10}}; !slices.Equal(got, want) {
		t.Errorf("%d", got)
	}
}
