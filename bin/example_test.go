package bin_test

import (
	"fmt"

	"anabranch/bin"
)

func Example() {
	fmt.Println(bin.Of(0), bin.Of(1), bin.Of(2), bin.Of(3))
	fmt.Println(bin.First(2))
	fmt.Println(bin.Turns([]int{1, 4, 6}, []int{3, 1}))
	fmt.Println(bin.Rising([]int{0, 3, 7}), bin.Rising([]int{3, 3}))
	// Output:
	// 0 4 1 6
	// [1 2 1 2 1 2 1 2]
	// [3 1 3]
	// true false
}
