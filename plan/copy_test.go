package plan_test

import (
	"reflect"
	"testing"

	"anabranch/api"
	"anabranch/plan"
	"anabranch/samples"
)

// P8.2, P8.3: a copy is the same plan, of any shape; also where a list is empty, but there.
func TestCopyIsTheSame(t *testing.T) {
	plans := []api.Plan{
		example(), full(), {}, {Lateness: -5, Epoch: 1 << 40},
		{Pre: []api.Op{}, Stages: []api.Stage{}},
		{Stages: []api.Stage{{}, {Post: []api.Op{}}}},
	}
	for _, posts := range samples.Lists([]int{0, 1, 2, 5}, 3) {
		plans = append(plans, shaped(len(posts), posts))
	}
	for _, p := range plans {
		c := plan.Copy(p)
		if !reflect.DeepEqual(c, p) {
			t.Fatalf("%+v, not %+v", c, p)
		}
		if !reflect.DeepEqual(answers(c), answers(p)) {
			t.Fatalf("%+v, not %+v", answers(c), answers(p))
		}
	}
}

// answers returns what all functions say of a plan.
func answers(p api.Plan) []any {
	node, e := plan.Check(p)
	all := []any{node, e, plan.Nodes(p), plan.Pre(p), plan.Copy(p)}
	for n := -1; n < 20; n++ {
		all = append(all, plan.Stage(p, n), plan.Of(p, n), plan.Post(p, n))
	}
	return all
}

// P8.2: no change of a plan is one of the other.
func TestCopyIsIndependent(t *testing.T) {
	other := api.Op{Kind: api.OpFlat, A: 2, B: 9}
	changes := map[string]edit{
		"Lateness":    func(p *api.Plan) { p.Lateness = 3 },
		"Epoch":       func(p *api.Plan) { p.Epoch = 3 },
		"a stage":     func(p *api.Plan) { p.Stages[1] = api.Stage{} },
		"a Post":      func(p *api.Plan) { p.Stages[1].Post = nil },
		"the lists":   func(p *api.Plan) { p.Pre, p.Stages = nil, nil },
		"all stages":  func(p *api.Plan) { clear(p.Stages) },
		"a longer":    func(p *api.Plan) { p.Pre = append(p.Pre, other) },
		"one more":    func(p *api.Plan) { p.Stages = append(p.Stages, api.Stage{Op: other}) },
		"a long Post": func(p *api.Plan) { p.Stages[0].Post = append(p.Stages[0].Post, other) },
	}
	for node := range 14 {
		changes["node "+string(rune('a'+node))] = at(node, other)
	}
	for name, do := range changes {
		p := full()
		c := plan.Copy(p)
		do(&c)
		if !reflect.DeepEqual(p, full()) || reflect.DeepEqual(c, p) {
			t.Errorf("%s of the copy: %+v", name, p)
		}
		p = full()
		c = plan.Copy(p)
		do(&p)
		if !reflect.DeepEqual(c, full()) {
			t.Errorf("%s of the plan: %+v", name, c)
		}
	}
}

// P8.2: lists that are parts of one memory, with room behind them, are apart in a copy.
func TestCopyOfSharedLists(t *testing.T) {
	room := maps(12)
	stages := []api.Stage{{Op: tumble, Post: room[:2]}, {Op: joins}}
	p := api.Plan{Pre: room[:2], Stages: stages[:1], Epoch: 1}
	c := plan.Copy(p)
	c.Pre[0] = filter
	if c.Stages[0].Post[0] != aMap {
		t.Errorf("%+v", c)
	}
	c.Pre = append(c.Pre, filter)
	c.Stages[0].Post = append(c.Stages[0].Post, filter)
	c.Stages = append(c.Stages, api.Stage{Op: slide})
	if room[0] != aMap || room[2] != aMap || stages[1].Op != joins {
		t.Errorf("%+v, %+v", room, stages)
	}
}
