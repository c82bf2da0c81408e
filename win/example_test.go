package win_test

import (
	"fmt"

	"anabranch/api"
	"anabranch/win"
)

func Example() {
	fmt.Println(win.Of(api.Op{Kind: api.OpSlide, A: 6, B: 2}, 5))
	a, b := [2]int64{0, 4}, [2]int64{3, 5}
	fmt.Println(win.Meet(a, b), win.Join(a, b))
	fmt.Println(win.Gather([][2]int64{{5, 7}, {0, 2}, {1, 5}, {9, 9}}))
	// Output:
	// [[0 6] [2 8] [4 10]]
	// true [0 5]
	// [[0 5] [5 7]]
}
