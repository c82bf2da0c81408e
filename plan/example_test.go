package plan_test

import (
	"fmt"

	"anabranch/api"
	"anabranch/plan"
)

func Example() {
	double, sum := api.Op{Kind: api.OpMap, A: 2}, api.Op{Kind: api.OpTumble, A: 10, Agg: api.AggSum}
	p := api.Plan{
		Pre:    []api.Op{double},
		Stages: []api.Stage{{Op: sum, Post: []api.Op{double, double}}, {Op: api.Op{Kind: api.OpJoin, A: 5}}},
		Epoch:  10,
	}
	fmt.Println(len(plan.Nodes(p)), plan.Stage(p, 3), plan.Of(p, 2))
	fmt.Println(plan.Pre(p), plan.Post(p, 1))
	c := plan.Copy(p)
	c.Stages[0].Post[1] = sum
	fmt.Println(plan.Check(p))
	fmt.Println(plan.Check(c)) // a window where none can be
	// Output:
	// 5 1 4
	// [0] [2 3]
	// -1 anabranch 00
	// 3 anabranch 14
}
