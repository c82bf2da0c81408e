package oper_test

import (
	"fmt"

	"anabranch/api"
	"anabranch/oper"
)

func Example() {
	flat, filter := api.Op{Kind: api.OpFlat, A: 2, B: 1}, api.Op{Kind: api.OpFilter, A: 2, B: 0}
	for _, x := range oper.Apply([]api.Op{flat, filter}, api.Rec{Key: 7, Time: 5, Val: -3}) {
		fmt.Println(x.Key, x.Time, x.Val)
	}
	fmt.Println(oper.Check(filter) == api.OK, oper.Class(filter) == oper.Stateless)
	fmt.Println(oper.Check(api.Op{Kind: api.OpFilter}) == api.ErrOp)
	// Output:
	// 7 5 -2
	// true true
	// true
}
