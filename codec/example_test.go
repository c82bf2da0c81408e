package codec_test

import (
	"fmt"

	"anabranch/api"
	"anabranch/codec"
	"anabranch/nums"
)

func Example() {
	b := codec.PMsg(nil, api.Msg{Kind: api.MsgMark, Ver: 2, Time: 100})
	fmt.Printf("%x\n", b)
	m, err := codec.GMsg(nums.New(string(b)))
	fmt.Println(m.Kind == api.MsgMark, m.Ver, m.Time, err)
	_, err = codec.GMsg(nums.New("\x0a"))
	fmt.Println(err.(*api.Fault).Code == api.ErrKind, err.(*api.Fault).At)
	// Output:
	// 02048148
	// true 2 100 <nil>
	// true 0
}
