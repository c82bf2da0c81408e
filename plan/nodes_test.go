package plan_test

import (
	"math"
	"reflect"
	"slices"
	"testing"

	"anabranch/api"
	"anabranch/plan"
	"anabranch/samples"
)

// P8.2: the examples.
func TestNumbersOfTheExample(t *testing.T) {
	p := example()
	for node, want := range []int{0, 0, 1, 1, 2, -1} {
		if got := plan.Stage(p, node); got != want {
			t.Errorf("Stage of %d: %d, not %d", node, got, want)
		}
	}
	for stage, want := range map[int]int{1: 2, 2: 4, 0: -1, 3: -1} {
		if got := plan.Of(p, stage); got != want {
			t.Errorf("Of %d: %d, not %d", stage, got, want)
		}
	}
	if l := plan.Pre(p); !slices.Equal(l, []int{0, 1}) {
		t.Error(l)
	}
	for stage, want := range [][]int{nil, {3}, nil, nil} {
		if l := plan.Post(p, stage); !slices.Equal(l, want) {
			t.Errorf("Post of %d: %d, not %d", stage, l, want)
		}
	}
	if l := plan.Nodes(p); !slices.Equal(l, []api.Op{aMap, filter, tumble, aMap, joins}) {
		t.Errorf("%+v", l)
	}
}

// shaped returns a plan of that many nodes in Pre, and in each stage's Post: each node's A is its number, its kind any, valid or not.
func shaped(pre int, posts []int) api.Plan {
	var p api.Plan
	number := int64(-1)
	next := func() api.Op {
		number++
		return api.Op{Kind: int(number*7%11) - 1, A: number}
	}
	for range pre {
		p.Pre = append(p.Pre, next())
	}
	for _, many := range posts {
		s := api.Stage{Op: next()}
		for range many {
			s.Post = append(s.Post, next())
		}
		p.Stages = append(p.Stages, s)
	}
	return p
}

// numbers returns so many numbers, from one on.
func numbers(from, many int) []int {
	var all []int
	for i := range many {
		all = append(all, from+i)
	}
	return all
}

// P8.2, P8.3: plans of all shapes, valid or not.
func TestNumbersOfAnyPlan(t *testing.T) {
	for _, posts := range samples.Lists([]int{0, 1, 2, 5}, 4) {
		for pre := range 7 {
			p := shaped(pre, posts)
			if l := plan.Pre(p); !slices.Equal(l, numbers(0, pre)) {
				t.Fatalf("Pre of %d, %d: %d", pre, posts, l)
			}
			var stages []int // of each node
			for range pre {
				stages = append(stages, 0)
			}
			for i, many := range posts {
				stage, from := i+1, len(stages)
				if got := plan.Of(p, stage); got != from {
					t.Fatalf("%d, %d: Of %d: %d, not %d", pre, posts, stage, got, from)
				}
				if l := plan.Post(p, stage); !slices.Equal(l, numbers(from+1, many)) {
					t.Fatalf("%d, %d: Post of %d: %d", pre, posts, stage, l)
				}
				for range many + 1 {
					stages = append(stages, stage)
				}
			}
			all := plan.Nodes(p)
			if len(all) != len(stages) {
				t.Fatalf("%d, %d: %+v", pre, posts, all)
			}
			for node, stage := range stages {
				if got := plan.Stage(p, node); got != stage || all[node].A != int64(node) {
					t.Fatalf("%d, %d: Stage of %d: %d, not %d; %+v", pre, posts, node, got, stage, all)
				}
			}
			noSuch(t, p, len(stages))
		}
	}
}

// noSuch looks at stages and nodes of which there are none.
func noSuch(t *testing.T, p api.Plan, many int) {
	t.Helper()
	for _, node := range []int{-1, -2, many, many + 1, math.MinInt, math.MaxInt} {
		if got := plan.Stage(p, node); got != -1 {
			t.Fatalf("%+v: Stage of %d: %d", p, node, got)
		}
	}
	last := len(p.Stages)
	for _, stage := range []int{0, -1, -2, last + 1, last + 2, math.MinInt, math.MaxInt} {
		if got, l := plan.Of(p, stage), plan.Post(p, stage); got != -1 || len(l) != 0 {
			t.Fatalf("%+v: of stage %d: %d, %d", p, stage, got, l)
		}
	}
}

// P8.2: a plan of nothing.
func TestNumbersOfNothing(t *testing.T) {
	for _, p := range []api.Plan{{}, {Pre: []api.Op{}, Stages: []api.Stage{}}} {
		if a, b := plan.Nodes(p), plan.Pre(p); len(a)+len(b) != 0 {
			t.Error(a, b)
		}
		noSuch(t, p, 0)
	}
}

// P8.3: each node is in exactly one of the lists.
func TestEachNodeOnce(t *testing.T) {
	p := shaped(3, []int{2, 0, 4})
	all := plan.Pre(p)
	for stage := range 5 {
		if n := plan.Of(p, stage); n >= 0 {
			all = append(all, n)
		}
		all = append(all, plan.Post(p, stage)...)
	}
	slices.Sort(all)
	if !slices.Equal(all, numbers(0, len(plan.Nodes(p)))) {
		t.Error(all)
	}
}

// P1: plans of many nodes.
func TestNumbersOfManyNodes(t *testing.T) {
	const many = 1 << 16
	posts := make([]int, many)
	posts[many-1] = many
	p := shaped(many, posts)
	if l := plan.Nodes(p); len(l) != 3*many || l[3*many-1].A != 3*many-1 {
		t.Error(len(l))
	}
	if got := plan.Stage(p, 3*many-1); got != many {
		t.Error(got)
	}
	if got := plan.Of(p, many); got != 2*many-1 {
		t.Error(got)
	}
	if l := plan.Post(p, many); !slices.Equal(l, numbers(2*many, many)) {
		t.Error(len(l))
	}
	if l := plan.Pre(p); !slices.Equal(l, numbers(0, many)) {
		t.Error(len(l))
	}
	if c := plan.Copy(p); !reflect.DeepEqual(c, p) {
		t.Error("the copy is another plan")
	}
	if node, e := plan.Check(p); node != -1 || e != api.ErrLong {
		t.Error(node, e)
	}
}

// What Nodes, Pre and Post return is the caller's, and the plan stays as it is.
func TestListsAreNew(t *testing.T) {
	p := shaped(2, []int{2, 1})
	kept := shaped(2, []int{2, 1})
	for range 2 {
		all, pre, post := plan.Nodes(p), plan.Pre(p), plan.Post(p, 1)
		if !slices.Equal(pre, []int{0, 1}) || !slices.Equal(post, []int{3, 4}) || all[6].A != 6 {
			t.Fatal(all, pre, post)
		}
		clear(all)
		clear(pre)
		clear(post)
		plan.Check(p)
		if !reflect.DeepEqual(p, kept) {
			t.Fatalf("%+v", p)
		}
	}
}
