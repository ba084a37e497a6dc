package husk

import (
	"bytes"
	"math"
	"testing"

	"valise/api"
	"valise/num"
)

// written is what Write writes.
func written(size int, head, tail []byte) []byte {
	var w num.Writer
	Write(&w, size, head, tail)
	return w.Bytes()
}

func TestWhatIsWrittenIsRead(t *testing.T) {
	for _, head := range []string{"", "h", "a head of some bytes", string(make([]byte, 300))} {
		for _, tail := range []string{"", "t", "a tail", string(make([]byte, 200))} {
			for _, between := range []int{0, 1, 2, 1000} {
				b := []byte(head + string(make([]byte, between)) + tail)
				x := written(len(b), []byte(head), []byte(tail))
				if len(x) > len(head)+len(tail)+9 {
					t.Errorf("%d bytes of %d and %d", len(x), len(head), len(tail))
				}
				for _, most := range []int{len(b), len(b) + 1, api.MaxData, api.MaxData + 1, math.MaxInt} {
					r := num.New(append(bytes.Clone(x), "more"...))
					y, err := Read(r, most)
					if err != api.OK || !bytes.Equal(y, b) || r.Left() != 4 || r.Err() != api.OK {
						t.Errorf("at most %d: %.60x, error %d, %d left; want %.60x", most, y, err, r.Left(), b)
					}
				}
				for _, most := range []int{len(b) - 1, 0, -1, math.MinInt} {
					if y, err := Read(num.New(x), most); len(b) > max(most, 0) && (err != api.ErrLimit || y != nil) {
						t.Errorf("at most %d of %d: %.60x, error %d; want 5", most, len(b), y, err)
					}
				}
			}
		}
	}
}

func TestWhatMayNotBe(t *testing.T) {
	head, tail := []byte("head"), []byte("tail")
	for name, c := range map[string]struct {
		x    []byte
		want api.Errno
	}{
		"nothing":                    {nil, api.ErrShort},
		"a size alone":               {[]byte{9}, api.ErrShort},
		"half a head":                {written(20, head, tail)[:4], api.ErrShort},
		"no tail":                    {written(20, head, nil)[:6], api.ErrShort},
		"half a tail":                {written(20, head, tail)[:9], api.ErrShort},
		"less than both":             {written(7, head, tail), api.ErrForm},
		"no size":                    {written(0, head, tail), api.ErrForm},
		"a size of a longer form":    {append([]byte{0x94, 0}, written(20, head, tail)[1:]...), api.ErrForm},
		"a longer head than may be":  {written(20, make([]byte, api.MaxData+1), tail), api.ErrForm},
		"a longer tail than may be":  {written(20, head, make([]byte, api.MaxData+1)), api.ErrForm},
		"more than may be":           {written(api.MaxData+1, head, tail), api.ErrLimit},
		"more than may be, and less": {written(math.MinInt, head, tail), api.ErrLimit},
	} {
		if y, err := Read(num.New(c.x), math.MaxInt); err != c.want || y != nil {
			t.Errorf("%s: %.60x, error %d; want %d", name, y, err, c.want)
		}
	}
	if y, err := Read(num.New(written(8, head, tail)), 8); err != api.OK || string(y) != "headtail" {
		t.Errorf("as long as both: %q, error %d", y, err)
	}
}

func TestOfNil(t *testing.T) {
	Write(nil, 3, []byte("a"), nil)
	if y, err := Read(nil, 3); err != api.ErrNil || y != nil {
		t.Errorf("%x, error %d; want 2", y, err)
	}
}
