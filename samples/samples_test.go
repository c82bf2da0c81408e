package samples_test

import (
	"slices"
	"testing"

	"anabranch/api"
	"anabranch/samples"
)

func TestHex(t *testing.T) {
	if s := samples.Hex("a5 00 62ff"); s != "\xa5\x00b\xff" {
		t.Errorf("%x", s)
	}
	if s := samples.Hex(""); s != "" {
		t.Errorf("%x", s)
	}
}

// A test with wrong digits must not pass unseen.
func TestHexWrong(t *testing.T) {
	for _, digits := range []string{"a", "a5 0", "zz", "+1", "a5\n00"} {
		func() {
			defer func() {
				if recover() == nil {
					t.Errorf("%q is taken", digits)
				}
			}()
			samples.Hex(digits)
		}()
	}
}

func TestShort(t *testing.T) {
	if all := samples.Short("ab", 2); !slices.Equal(all, []string{"", "a", "b", "aa", "ab", "ba", "bb"}) {
		t.Errorf("%q", all)
	}
	if all := samples.Short("ab", 0); !slices.Equal(all, []string{""}) {
		t.Errorf("%q", all)
	}
}

func TestEveryByte(t *testing.T) {
	s := samples.EveryByte()
	for i := range len(s) {
		if len(s) != 256 || s[i] != byte(i) {
			t.Fatalf("%x", s)
		}
	}
}

func TestIsFault(t *testing.T) {
	var none *api.Fault
	for _, c := range []struct {
		err  error
		want bool
	}{
		{&api.Fault{Code: api.ErrForm, At: 3}, true},
		{&api.Fault{Code: api.ErrForm, At: 2}, false},
		{&api.Fault{Code: api.ErrLong, At: 3}, false},
		{api.ErrForm, false},
		{none, false},
		{nil, false},
	} {
		if got := samples.IsFault(c.err, api.ErrForm, 3); got != c.want {
			t.Errorf("%#v: %v", c.err, got)
		}
	}
}
