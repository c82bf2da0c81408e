package win_test

import (
	"cmp"
	"math"
	"slices"
	"testing"

	"anabranch/samples"
	"anabranch/win"
)

// P6.3: the example, and others.
func TestGatherExamples(t *testing.T) {
	for _, c := range []struct{ of, want []window }{
		{[]window{{5, 7}, {0, 2}, {1, 5}, {9, 9}}, []window{{0, 5}, {5, 7}}},
		{nil, nil},
		{[]window{}, nil},
		{[]window{{9, 9}, {0, 0}, {3, -3}}, nil},
		{[]window{{-3, 3}}, []window{{-3, 3}}},
		{[]window{{0, 1}, {0, 1}, {0, 1}}, []window{{0, 1}}},
		{[]window{{0, 1}, {1, 2}, {-1, 0}}, []window{{-1, 0}, {0, 1}, {1, 2}}},
		{[]window{{0, 9}, {2, 3}, {4, 5}, {8, 10}}, []window{{0, 10}}},
		{[]window{{0, 4}, {0, 0}, {2, 2}, {6, 6}}, []window{{0, 4}}},
		{[]window{{0, 4}, {6, 9}, {7, 3}}, []window{{0, 4}, {6, 9}}},
		{[]window{{4, 6}, {0, 2}, {1, 5}}, []window{{0, 6}}}, // the last one makes all of them one
		{[]window{{-9, -4}, {-5, 0}, {0, 0}, {0, 4}}, []window{{-9, 0}, {0, 4}}},
		{[]window{{math.MinInt64, math.MaxInt64}, {0, 1}}, []window{{math.MinInt64, math.MaxInt64}}},
		{[]window{{math.MaxInt64 - 1, math.MaxInt64}, {math.MinInt64, math.MinInt64 + 1}}, []window{{math.MinInt64, math.MinInt64 + 1}, {math.MaxInt64 - 1, math.MaxInt64}}},
		{[]window{{math.MaxInt64, math.MinInt64}, {3, 4}}, []window{{3, 4}}},
	} {
		if got := win.Gather(c.of); !slices.Equal(got, c.want) {
			t.Errorf("of %d: %d, not %d", c.of, got, c.want)
		}
	}
}

func isWindow(w window) bool { return w[0] < w[1] }

func meet(a, b window) bool { return a[0] < b[1] && b[0] < a[1] }

// twoThatMeet returns the places of two windows that meet.
func twoThatMeet(l []window) (int, int, bool) {
	for i, a := range l {
		for j, b := range l[:i] {
			if meet(a, b) {
				return j, i, true
			}
		}
	}
	return 0, 0, false
}

// gathered returns the result of merging, as the chapter says: as long as two meet, both are replaced by their union.
func gathered(l []window) []window {
	l = slices.DeleteFunc(slices.Clone(l), func(w window) bool { return !isWindow(w) })
	for i, j, is := twoThatMeet(l); is; i, j, is = twoThatMeet(l) {
		union := window{min(l[i][0], l[j][0]), max(l[i][1], l[j][1])}
		l = append(slices.Delete(slices.Delete(l, j, j+1), i, i+1), union)
	}
	slices.SortFunc(l, func(a, b window) int { return cmp.Compare(a[0], b[0]) })
	return l
}

// P6.3, P6.4: all lists of up to three pairs, windows or not, in all orders; l stays as it is.
func TestGatherShort(t *testing.T) {
	for _, l := range samples.Lists(pairs(-2, -1, 0, 1, 2, 3), 3) {
		kept := slices.Clone(l)
		if got, want := win.Gather(l), gathered(l); !slices.Equal(got, want) || !slices.Equal(l, kept) {
			t.Fatalf("of %d: %d, not %d; %d", kept, got, want, l)
		}
	}
}

// P6.3, P1: pairs with numbers at the edges.
func TestGatherEdges(t *testing.T) {
	for _, l := range samples.Lists(pairs(math.MinInt64, -1, 0, 1, math.MaxInt64), 3) {
		if got, want := win.Gather(l), gathered(l); !slices.Equal(got, want) {
			t.Fatalf("of %d: %d, not %d", l, got, want)
		}
	}
}

// spread returns as many windows of up to that length, and pairs that are none, at places that seem to have no order.
func spread(many int, within, length int64) []window {
	var all []window
	n := uint64(7)
	for range many {
		n = n*6364136223846793005 + 1442695040888963407
		s := int64(n>>33)%within - within/2
		all = append(all, window{s, s + int64(n>>11)%(length+1)})
	}
	return all
}

// isIn tells whether a time is in one of the windows.
func isIn(l []window, t int64) bool {
	return slices.ContainsFunc(l, func(w window) bool { return w[0] <= t && t < w[1] })
}

// P6.4: merged windows do not meet, are ordered, and have the same times as l, whatever its order.
func TestGatherTimes(t *testing.T) {
	for _, length := range []int64{1, 2, 5, 12, 40} {
		l := spread(40, 200, length)
		got := win.Gather(l)
		for i, w := range got {
			if !isWindow(w) || i > 0 && got[i-1][1] > w[0] {
				t.Errorf("of %d: %d", l, got)
			}
		}
		for at := int64(-120); at < 200; at++ {
			if isIn(got, at) != isIn(l, at) {
				t.Errorf("%d: in one of %d, or of %d", at, l, got)
			}
		}
		slices.Reverse(l)
		if back := win.Gather(l); !slices.Equal(back, got) || !slices.Equal(win.Gather(got), got) {
			t.Errorf("%d, not %d", back, got)
		}
	}
}

// P1: long lists, of which none meet, or all do.
func TestGatherLong(t *testing.T) {
	const many = 300000
	apart, joined := make([]window, many), make([]window, many)
	for i := range apart {
		s := int64(many - i)
		apart[i], joined[i] = window{s, s + 1}, window{s, s + 2}
	}
	got := win.Gather(apart)
	slices.Reverse(apart)
	if !slices.Equal(got, apart) {
		t.Errorf("%d windows, not %d", len(got), many)
	}
	if got := win.Gather(joined); !slices.Equal(got, []window{{1, many + 2}}) {
		t.Errorf("%d", got)
	}
}

// What Gather returns shares no memory with l.
func TestGatherIsNew(t *testing.T) {
	l := []window{{0, 2}, {4, 6}}
	got := win.Gather(l)
	got[0], got[1] = window{8, 9}, window{8, 9}
	if !slices.Equal(l, []window{{0, 2}, {4, 6}}) {
		t.Errorf("%d", l)
	}
}
