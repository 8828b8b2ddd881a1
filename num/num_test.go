package num

import "testing"

func TestText(t *testing.T) {
	for _, x := range []struct {
		v     uint64
		width int
		want  string
	}{{0, 0, ""}, {1, 4, "\x00\x00\x00\x01"}, {0x1234, 2, "\x12\x34"}, {0x123456, 2, "\x34\x56"}, {1 << 63, 8, "\x80\x00\x00\x00\x00\x00\x00\x00"}, {7, -1, ""}, {7, 9, "\x00\x00\x00\x00\x00\x00\x00\x07"}} {
		if got := Text(x.v, x.width); got != x.want {
			t.Errorf("%d in %d: %x", x.v, x.width, got)
		}
	}
	if Of("") != 0 || Of("\x01\x02") != 258 || Of("\xff\x00\x00\x00\x00\x00\x00\x00\x01") != 1 {
		t.Error("numbers of bytes")
	}
	if !Blank("") || !Blank("\x00\x00") || Blank("\x00\x01") {
		t.Error("blank")
	}
}
