package nums_test

import (
	"fmt"

	"anabranch/nums"
)

func Example() {
	b := nums.PText(nums.P(nil, 300), "ab")
	fmt.Printf("%x\n", b)
	r := nums.New(string(b))
	n, err := r.U()
	fmt.Println(n, err)
	s, err := r.Text(10)
	fmt.Println(s, err, r.End())
	// Output:
	// 822c026162
	// 300 <nil>
	// ab <nil> <nil>
}
