package bin_test

import (
	"math"
	"slices"
	"testing"

	"anabranch/api"
	"anabranch/bin"
	"anabranch/samples"
)

type owners = [api.Bins]int

// P7.1: First of all that there can be, and of what can't be.
func TestFirst(t *testing.T) {
	for _, c := range []struct {
		active int
		want   owners
	}{
		{1, owners{1, 1, 1, 1, 1, 1, 1, 1}},
		{2, owners{1, 2, 1, 2, 1, 2, 1, 2}},
		{3, owners{1, 2, 3, 1, 2, 3, 1, 2}},
		{0, owners{}}, {4, owners{}}, {8, owners{}}, {-1, owners{}}, {-3, owners{}},
		{1<<32 + 1, owners{}}, {math.MaxInt, owners{}}, {math.MinInt, owners{}},
	} {
		if got := bin.First(c.active); got != c.want {
			t.Errorf("%d: %d, not %d", c.active, got, c.want)
		}
	}
}

// P7.1: what First returned is the caller's.
func TestFirstIsNew(t *testing.T) {
	first := bin.First(3)
	first[0] = 9
	if got := bin.First(3); got[0] != 1 {
		t.Error(got)
	}
}

// P7.2: the examples, and others; neither the bins nor the workers need be valid.
func TestTurnsExamples(t *testing.T) {
	for _, c := range []struct{ bins, to, want []int }{
		{[]int{1, 4, 6}, []int{3, 1}, []int{3, 1, 3}},
		{[]int{0, 2, 4, 6}, []int{2, 3}, []int{2, 3, 2, 3}},
		{[]int{5}, []int{2, 3, 1}, []int{2}},
		{[]int{7, 1}, []int{2, 1}, []int{2, 1}},
		{[]int{0, 1, 2}, []int{2}, []int{2, 2, 2}},
		{[]int{6, 6, 0, 0, 9, -1, 7}, []int{1, 1, 2}, []int{1, 1, 2, 1, 1, 2, 1}},
		{[]int{0, 1, 2}, []int{0, -4}, []int{0, -4, 0}},
		{[]int{0, 1}, []int{math.MinInt, math.MaxInt, 1}, []int{math.MinInt, math.MaxInt}},
		{[]int{0, 1, 2}, nil, nil},
		{[]int{0, 1, 2}, []int{}, nil},
		{nil, []int{1, 2}, nil},
		{[]int{}, []int{1, 2}, nil},
		{nil, nil, nil},
	} {
		if got := bin.Turns(c.bins, c.to); !slices.Equal(got, c.want) {
			t.Errorf("%d to %d: %d, not %d", c.bins, c.to, got, c.want)
		}
	}
}

// P7.2: for the k-th bin it is the element with the index k modulo the length, of all short lists; which bins they are makes no difference.
func TestTurnsDefinition(t *testing.T) {
	for _, to := range samples.Lists([]int{0, 1, 2, 3}, 4) {
		for n := range 12 {
			bins := make([]int, n)
			got := bin.Turns(bins, to)
			if len(to) == 0 {
				if len(got) != 0 {
					t.Fatalf("%d bins to none: %d", n, got)
				}
				continue
			}
			if len(got) != n {
				t.Fatalf("%d bins to %d: %d", n, to, got)
			}
			for k, w := range got {
				if w != to[k%len(to)] {
					t.Fatalf("%d bins to %d: %d", n, to, got)
				}
			}
		}
	}
}

// P1, P7.2: long lists come to an end too.
func TestTurnsLong(t *testing.T) {
	long := make([]int, 1<<20)
	for i := range long {
		long[i] = i
	}
	if got := bin.Turns(long, []int{5, 6, 7}); len(got) != len(long) || got[1<<20-1] != 5+(1<<20-1)%3 {
		t.Error(len(got))
	}
	if got := bin.Turns(long[:2], long[9:]); !slices.Equal(got, []int{9, 10}) {
		t.Error(got)
	}
}

// P7.2: the lists stay as they are, and the result is new memory.
func TestTurnsIsNew(t *testing.T) {
	bins, to := []int{1, 4, 6, 7}, []int{3, 1, 2, 1, 3}
	got := bin.Turns(bins[:3], to[:4])
	if !slices.Equal(bins, []int{1, 4, 6, 7}) || !slices.Equal(to, []int{3, 1, 2, 1, 3}) {
		t.Fatalf("%d, %d", bins, to)
	}
	for i := range got {
		got[i] = 9
	}
	if !slices.Equal(bins, []int{1, 4, 6, 7}) || !slices.Equal(to, []int{3, 1, 2, 1, 3}) {
		t.Errorf("%d, %d", bins, to)
	}
	got = bin.Turns(bins[:3], to[:4])
	bins[0], to[0] = 0, 9
	if !slices.Equal(got, []int{3, 1, 2}) {
		t.Errorf("%d", got)
	}
}

// P7.2: the examples, and others.
func TestRisingExamples(t *testing.T) {
	for _, c := range []struct {
		bins []int
		want bool
	}{
		{[]int{0, 3, 7}, true},
		{[]int{3, 3}, false},
		{nil, false},
		{[]int{}, false},
		{[]int{8}, false},
		{[]int{0}, true},
		{[]int{7}, true},
		{[]int{-1}, false},
		{[]int{-1, 0}, false},
		{[]int{7, 8}, false},
		{[]int{8, 0}, false},
		{[]int{3, 2}, false},
		{[]int{0, 2, 1}, false},
		{[]int{0, 1, 2, 3, 4, 5, 6, 7}, true},
		{[]int{1, 2, 3, 4, 5, 6, 7}, true},
		{[]int{0, 1, 2, 3, 4, 5, 6, 7, 7}, false},
		{[]int{0, 1, 2, 3, 4, 5, 6, 7, 8}, false},
		{[]int{0, 0, 1, 2, 3, 4, 5, 6, 7}, false},
		{[]int{math.MinInt}, false},
		{[]int{math.MaxInt}, false},
		{[]int{math.MinInt, 0}, false},
		{[]int{0, math.MaxInt}, false},
		{[]int{0, math.MinInt}, false},
		{[]int{1 << 32}, false},
		{make([]int, 1<<20), false},
	} {
		if got := bin.Rising(c.bins); got != c.want {
			t.Errorf("%d of %d: %v", c.bins[:min(len(c.bins), 9)], len(c.bins), got)
		}
	}
}

// rises is what the chapter says of lists of bins: each pair is held against each other one's order.
func rises(bins []int) bool {
	good := len(bins) >= 1 && len(bins) <= 8
	for i, b := range bins {
		good = good && 0 <= b && b <= 7
		for _, before := range bins[:i] {
			good = good && before < b
		}
	}
	return good
}

// P7.2: Rising is what the chapter says, of all sets of bins, and of all short lists of numbers about the bins'; and it does not change them.
func TestRisingDefinition(t *testing.T) {
	for set := range 1 << 8 {
		var bins []int
		for b := range 8 {
			if set>>b&1 == 1 {
				bins = append(bins, b)
			}
		}
		if got := bin.Rising(bins); got != (set > 0) {
			t.Errorf("%d: %v", bins, got)
		}
	}
	for _, bins := range samples.Lists([]int{-9, -1, 0, 1, 2, 6, 7, 8, 15}, 5) {
		old := slices.Clone(bins)
		if got := bin.Rising(bins); got != rises(bins) || !slices.Equal(bins, old) {
			t.Fatalf("%d: %v, then %d", old, got, bins)
		}
	}
}

// spread tells by how many the bins of the workers differ, of those that have the most and the fewest.
func spread(owners []int, workers []int) int {
	most, fewest := 0, len(owners)
	for _, w := range workers {
		n := 0
		for _, owner := range owners {
			if owner == w {
				n++
			}
		}
		most, fewest = max(most, n), min(fewest, n)
	}
	return most - fewest
}

// P7.3: no worker has more than one bin more than another one.
func TestEvenly(t *testing.T) {
	for _, to := range [][]int{{1}, {2}, {3}, {1, 2}, {2, 1}, {1, 3}, {3, 2}, {1, 2, 3}, {3, 1, 2}, {2, 3, 1}} {
		for n := range 9 {
			if got := bin.Turns([]int{0, 1, 2, 3, 4, 5, 6, 7}[:n], to); spread(got, to) > 1 {
				t.Errorf("%d bins to %d: %d", n, to, got)
			}
		}
	}
	for active := 1; active <= 3; active++ {
		first := bin.First(active)
		if spread(first[:], []int{1, 2, 3}[:active]) > 1 {
			t.Errorf("%d: %d", active, first)
		}
	}
}
