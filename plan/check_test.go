package plan_test

import (
	"math"
	"slices"
	"testing"

	"anabranch/api"
	"anabranch/plan"
)

var (
	aMap    = api.Op{Kind: api.OpMap}
	filter  = api.Op{Kind: api.OpFilter, A: 2}
	tumble  = api.Op{Kind: api.OpTumble, A: 10}
	joins   = api.Op{Kind: api.OpJoin, A: 5}
	session = api.Op{Kind: api.OpSession, A: 3, Agg: api.AggSum}
	slide   = api.Op{Kind: api.OpSlide, A: 8, B: 4}
)

// example returns the chapter's plan; its memory is nobody else's.
func example() api.Plan {
	return api.Plan{
		Pre:    []api.Op{aMap, filter},
		Stages: []api.Stage{{Op: tumble, Post: []api.Op{aMap}}, {Op: joins}},
		Epoch:  1,
	}
}

// maps returns that many nodes that are valid where no state is.
func maps(many int) []api.Op { return make([]api.Op, many) }

// places returns where the nodes of a plan are, in order.
func places(p *api.Plan) []*api.Op {
	var all []*api.Op
	for i := range p.Pre {
		all = append(all, &p.Pre[i])
	}
	for i := range p.Stages {
		s := &p.Stages[i]
		all = append(all, &s.Op)
		for k := range s.Post {
			all = append(all, &s.Post[k])
		}
	}
	return all
}

// edit is one thing that is done to a plan.
type edit = func(p *api.Plan)

// at makes a node another operator.
func at(node int, op api.Op) edit { return func(p *api.Plan) { *places(p)[node] = op } }

// P8.1: the examples, and the edges of each condition.
func TestCheckExamples(t *testing.T) {
	for name, c := range map[string]struct {
		edit edit
		node int
		err  api.Errno
	}{
		"as it is":            {func(p *api.Plan) {}, -1, api.OK},
		"node 2 is a Map":     {at(2, aMap), 2, api.ErrClass},
		"a Filter modulo 0":   {at(1, api.Op{Kind: api.OpFilter}), 1, api.ErrOp},
		"no stages":           {func(p *api.Plan) { p.Stages = nil }, -1, api.ErrLong},
		"stages of none":      {func(p *api.Plan) { p.Stages = []api.Stage{} }, -1, api.ErrLong},
		"one stage":           {func(p *api.Plan) { p.Stages = p.Stages[:1] }, -1, api.OK},
		"three stages":        {func(p *api.Plan) { p.Stages = append(p.Stages, p.Stages[1]) }, -1, api.ErrLong},
		"many stages":         {func(p *api.Plan) { p.Stages = make([]api.Stage, 1<<16) }, -1, api.ErrLong},
		"no Pre":              {func(p *api.Plan) { p.Pre = nil }, -1, api.OK},
		"a Pre of 4":          {func(p *api.Plan) { p.Pre = maps(4) }, -1, api.OK},
		"a Pre of 5":          {func(p *api.Plan) { p.Pre = maps(5) }, -1, api.ErrLong},
		"no Post":             {func(p *api.Plan) { p.Stages[0].Post = nil }, -1, api.OK},
		"the first Post of 4": {func(p *api.Plan) { p.Stages[0].Post = maps(4) }, -1, api.OK},
		"the first Post of 5": {func(p *api.Plan) { p.Stages[0].Post = maps(5) }, -1, api.ErrLong},
		"the last Post of 4":  {func(p *api.Plan) { p.Stages[1].Post = maps(4) }, -1, api.OK},
		"the last Post of 5":  {func(p *api.Plan) { p.Stages[1].Post = maps(5) }, -1, api.ErrLong},
		"all of 4":            {func(p *api.Plan) { p.Pre, p.Stages[0].Post, p.Stages[1].Post = maps(4), maps(4), maps(4) }, -1, api.OK},
		"Lateness -1":         {func(p *api.Plan) { p.Lateness = -1 }, -1, api.ErrArg},
		"Lateness 1":          {func(p *api.Plan) { p.Lateness = 1 }, -1, api.OK},
		"Lateness 2^30":       {func(p *api.Plan) { p.Lateness = 1 << 30 }, -1, api.OK},
		"Lateness 2^30 + 1":   {func(p *api.Plan) { p.Lateness = 1<<30 + 1 }, -1, api.ErrArg},
		"the least Lateness":  {func(p *api.Plan) { p.Lateness = math.MinInt64 }, -1, api.ErrArg},
		"the most Lateness":   {func(p *api.Plan) { p.Lateness = math.MaxInt64 }, -1, api.ErrArg},
		"Epoch 0":             {func(p *api.Plan) { p.Epoch = 0 }, -1, api.ErrArg},
		"Epoch -1":            {func(p *api.Plan) { p.Epoch = -1 }, -1, api.ErrArg},
		"Epoch 2^30":          {func(p *api.Plan) { p.Epoch = 1 << 30 }, -1, api.OK},
		"Epoch 2^30 + 1":      {func(p *api.Plan) { p.Epoch = 1<<30 + 1 }, -1, api.ErrArg},
		"the least Epoch":     {func(p *api.Plan) { p.Epoch = math.MinInt64 }, -1, api.ErrArg},
		"the most Epoch":      {func(p *api.Plan) { p.Epoch = math.MaxInt64 }, -1, api.ErrArg},
		"nothing at all":      {func(p *api.Plan) { *p = api.Plan{} }, -1, api.ErrLong},
	} {
		p := example()
		c.edit(&p)
		if node, e := plan.Check(p); node != c.node || e != c.err {
			t.Errorf("%s: %d, %d; not %d, %d", name, node, int(e), c.node, int(c.err))
		}
	}
}

// full returns a valid plan of as many nodes as there can be: 0 to 3 of Pre, 4 and 9 with state.
func full() api.Plan {
	return api.Plan{
		Pre:      maps(4),
		Stages:   []api.Stage{{Op: session, Post: maps(4)}, {Op: slide, Post: maps(4)}},
		Lateness: 7,
		Epoch:    10,
	}
}

// operators are some of each class, and some that aren't valid, by what Check says of a node that is one of them: where no state is, and where state is.
var operators = []struct {
	op              api.Op
	without, within api.Errno
}{
	{aMap, api.OK, api.ErrClass},
	{api.Op{Kind: api.OpKey, A: 5}, api.OK, api.ErrClass},
	{filter, api.OK, api.ErrClass},
	{api.Op{Kind: api.OpFlat, A: 3}, api.OK, api.ErrClass},
	{tumble, api.ErrClass, api.OK},
	{slide, api.ErrClass, api.OK},
	{session, api.ErrClass, api.OK},
	{joins, api.ErrClass, api.OK},
	{api.Op{Kind: api.OpMap, Agg: 1}, api.ErrOp, api.ErrOp}, // of another class where state is, but not valid first
	{api.Op{Kind: api.OpFlat, A: 4}, api.ErrOp, api.ErrOp},
	{api.Op{Kind: api.OpTumble}, api.ErrOp, api.ErrOp},
	{api.Op{Kind: api.OpSlide, A: 5, B: 2}, api.ErrOp, api.ErrOp},
	{api.Op{Kind: api.OpJoin, A: 5, Agg: 1}, api.ErrOp, api.ErrOp},
	{api.Op{Kind: -1, A: 1}, api.ErrOp, api.ErrOp},
	{api.Op{Kind: 8, A: 1}, api.ErrOp, api.ErrOp},
	{api.Op{Kind: math.MinInt, A: 1}, api.ErrOp, api.ErrOp},
}

// P8.1: any two nodes of the longest plan as any operators: the first one that isn't what it must be counts, and nothing before it.
func TestCheckNodes(t *testing.T) {
	isState := func(node int) bool { return node == 4 || node == 9 }
	for first := range 14 {
		for second := first + 1; second < 14; second++ {
			for _, a := range operators {
				for _, b := range operators {
					p := full()
					at(first, a.op)(&p)
					at(second, b.op)(&p)
					ofA, ofB := a.without, b.without
					if isState(first) {
						ofA = a.within
					}
					if isState(second) {
						ofB = b.within
					}
					want, err := -1, api.OK
					if ofA != api.OK {
						want, err = first, ofA
					} else if ofB != api.OK {
						want, err = second, ofB
					}
					if node, e := plan.Check(p); node != want || e != err {
						t.Fatalf("%d %+v, %d %+v: %d, %d; not %d, %d", first, a.op, second, b.op, node, int(e), want, int(err))
					}
				}
			}
		}
	}
}

// faults are things done to the longest plan, one or none of each row, in the order in which Check looks; what is after them is what it then says.
var faults = []struct {
	edits []edit
	node  int
	err   api.Errno
}{
	{[]edit{func(p *api.Plan) { p.Pre = append(p.Pre, joins) }}, -1, api.ErrLong},
	{[]edit{func(p *api.Plan) { p.Stages = append(p.Stages, api.Stage{}) }}, -1, api.ErrLong},
	{[]edit{
		func(p *api.Plan) { p.Stages[0].Post = append(p.Stages[0].Post, joins) },
		func(p *api.Plan) { p.Stages[1].Post = append(p.Stages[1].Post, joins) },
	}, -1, api.ErrLong},
	{[]edit{
		func(p *api.Plan) { p.Lateness = -1 },
		func(p *api.Plan) { p.Lateness = 1<<30 + 1 },
	}, -1, api.ErrArg},
	{[]edit{
		func(p *api.Plan) { p.Epoch = 0 },
		func(p *api.Plan) { p.Epoch = 1<<30 + 1 },
	}, -1, api.ErrArg},
	{[]edit{at(0, api.Op{Kind: 9})}, 0, api.ErrOp},
	{[]edit{at(3, slide)}, 3, api.ErrClass},
	{[]edit{at(4, filter)}, 4, api.ErrClass},
	{[]edit{at(8, api.Op{Kind: api.OpKey})}, 8, api.ErrOp},
	{[]edit{at(9, aMap)}, 9, api.ErrClass},
	{[]edit{at(13, joins)}, 13, api.ErrClass},
}

// P8.1, P1: of any faults at once, the first one that the chapter names is returned.
func TestCheckOrder(t *testing.T) {
	var from func(row int, edits []edit, node int, err api.Errno)
	from = func(row int, edits []edit, node int, err api.Errno) {
		if row < 0 {
			p := full()
			for _, do := range edits {
				do(&p)
			}
			if got, e := plan.Check(p); got != node || e != err {
				t.Fatalf("%+v: %d, %d; not %d, %d", p, got, int(e), node, int(err))
			}
			return
		}
		from(row-1, edits, node, err)
		for _, do := range faults[row].edits {
			// Nodes are put first, while they have their numbers.
			from(row-1, append(slices.Clone(edits), do), faults[row].node, faults[row].err)
		}
	}
	from(len(faults)-1, nil, -1, api.OK)
}

// P8.1: without stages, whatever else is wrong.
func TestCheckNoStage(t *testing.T) {
	for _, p := range []api.Plan{
		{Epoch: 1},
		{Lateness: -1},
		{Pre: maps(5), Epoch: 1},
		{Pre: []api.Op{{Kind: 9}}, Epoch: 1},
		{Pre: []api.Op{tumble}},
	} {
		if node, e := plan.Check(p); node != -1 || e != api.ErrLong {
			t.Errorf("%+v: %d, %d", p, node, int(e))
		}
	}
}
