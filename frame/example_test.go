package frame_test

import (
	"fmt"

	"anabranch/frame"
)

func Example() {
	s, e := frame.Put("ab")
	fmt.Printf("%x %d\n", s, e)
	body, next, e := frame.Next(s, 0)
	fmt.Println(body, next, int(e))
	bodies, at, e := frame.All(s + "\xa5")
	fmt.Println(bodies, at, int(e))
	// Output:
	// a500000261625a 0
	// ab 7 0
	// [ab] 7 20
}
