package acc_test

import (
	"fmt"
	"math"

	"anabranch/acc"
	"anabranch/api"
)

func Example() {
	a := acc.Merge(acc.One(7), acc.One(-1))
	fmt.Println(acc.Result(a, api.AggSum))
	fmt.Println(acc.Result(a, api.AggMin))
	a = acc.Merge(a, acc.One(math.MaxInt64))
	fmt.Println(acc.Result(a, api.AggSum))
	fmt.Println(acc.Result(acc.Merge(a, acc.One(-6)), api.AggSum))
	// Output:
	// 6 true
	// -1 true
	// 0 false
	// 9223372036854775807 true
}
