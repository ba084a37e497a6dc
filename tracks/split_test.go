package tracks

import (
	"reflect"
	"slices"
	"testing"

	"valise/api"
)

// same tells whether these lists are the same, one by one.
func same(a, b [][]int32) bool {
	return slices.EqualFunc(a, b, slices.Equal)
}

// split fails unless b is split as the chapter's words say, and joined again.
func split(t *testing.T, b []byte, channels, bits int) {
	t.Helper()
	got, err := Split(b, channels, bits)
	want, fault := splitByWords(b, channels, bits)
	if err != fault || !same(got, want) || err != api.OK && got != nil {
		t.Fatalf("Split of %.100x, %d, %d: %v, error %d; want %v, error %d", b, channels, bits, got, err, want, fault)
	}
	if err != api.OK {
		return
	}
	if again, err := Join(bits, got...); err != api.OK || string(again) != string(b) {
		t.Fatalf("%.100x, %d, %d: joined again: %.100x, error %d", b, channels, bits, again, err)
	}
}

func TestSplitOfKnown(t *testing.T) { // P14.1
	for _, c := range []struct {
		b              []byte
		channels, bits int
		want           [][]int32
	}{
		{[]byte{0x80, 0x81}, 1, 8, [][]int32{{0, 1}}}, // example 1
		{[]byte{0x80, 0x81}, 2, 8, [][]int32{{0}, {1}}},
		{[]byte{0, 127, 128, 255}, 1, 8, [][]int32{{-128, -1, 0, 127}}},
		{[]byte{1, 2, 3, 4, 5, 6}, 3, 8, [][]int32{{-127, -124}, {-126, -123}, {-125, -122}}},
		{[]byte{0, 1, 2, 3, 4, 5, 6, 7}, 8, 8, [][]int32{{-128}, {-127}, {-126}, {-125}, {-124}, {-123}, {-122}, {-121}}},
		{[]byte{0, 0, 1, 0, 0, 1, 0xff, 0xff}, 1, 16, [][]int32{{0, 1, 256, -1}}},
		{[]byte{0, 0x80, 0xff, 0x7f, 0x80, 0, 0, 0x81}, 2, 16, [][]int32{{-32768, 128}, {32767, -32512}}},
		{[]byte{1, 2, 3, 4, 5, 6}, 3, 16, [][]int32{{513}, {1027}, {1541}}},
	} {
		got, err := Split(c.b, c.channels, c.bits)
		if err != api.OK || !reflect.DeepEqual(got, c.want) {
			t.Errorf("Split of %x, %d, %d: %v, error %d; want %v", c.b, c.channels, c.bits, got, err, c.want)
		}
		if b, err := Join(c.bits, c.want...); err != api.OK || !slices.Equal(b, c.b) {
			t.Errorf("Join of %d, %v: %x, error %d; want %x", c.bits, c.want, b, err, c.b)
		}
	}
}

func TestSplitOfEachSample(t *testing.T) { // P14.1: all there are of 8 and of 16 bits
	var short, long []byte
	for i := range 1 << 16 {
		short, long = append(short, byte(i)), append(long, byte(i), byte(i>>8))
	}
	for _, channels := range []int{1, 2, 4, 8} {
		split(t, short, channels, 8)
		split(t, long, channels, 16)
	}
}

func TestSplitOfAnyLength(t *testing.T) { // P14.1: whole frames alone
	l := luck(1)
	for channels := 1; channels <= 8; channels++ {
		for _, bits := range []int{8, 16} {
			for n := range 100 {
				split(t, l.bytes(n), channels, bits)
			}
		}
	}
}

func TestSplitOfParts(t *testing.T) { // P14.1, R4: no whole number of frames
	for _, c := range []struct{ n, channels, bits int }{
		{1, 2, 8}, {3, 2, 8}, {1, 3, 8}, {2, 3, 8}, {4, 3, 8}, {7, 8, 8}, {9, 8, 8}, {12, 8, 8},
		{1, 1, 16}, {3, 1, 16}, {1, 2, 16}, {2, 2, 16}, {3, 2, 16}, {6, 2, 16}, {8, 3, 16}, {8, 8, 16}, {15, 8, 16}, {17, 8, 16}, {24, 8, 16},
	} {
		if got, err := Split(make([]byte, c.n), c.channels, c.bits); err != api.ErrForm || got != nil {
			t.Errorf("%d bytes, %d channels, %d bits: %v, error %d; want error %d", c.n, c.channels, c.bits, got, err, api.ErrForm)
		}
	}
}

func TestSplitOfNothing(t *testing.T) { // P14.1, R3: no frame is a whole number of them
	for _, none := range [][]byte{nil, {}, make([]byte, 0, 9)} {
		for channels := 1; channels <= 8; channels++ {
			for _, bits := range []int{8, 16} {
				got, err := Split(none, channels, bits)
				if err != api.OK || len(got) != channels || slices.ContainsFunc(got, func(l []int32) bool { return len(l) != 0 }) {
					t.Errorf("%d channels, %d bits: %v, error %d", channels, bits, got, err)
				}
			}
		}
	}
}

func TestSplitRefuses(t *testing.T) { // P14.1, R4, R5: no such channels, no such bits, whatever the bytes are
	var refused []struct{ channels, bits int }
	for _, channels := range counts() {
		for _, bits := range append(widths(), 8, 16) {
			refused = append(refused, struct{ channels, bits int }{channels, bits})
		}
	}
	for channels := 1; channels <= 8; channels++ {
		for _, bits := range widths() {
			refused = append(refused, struct{ channels, bits int }{channels, bits})
		}
	}
	for _, c := range refused {
		for _, b := range [][]byte{nil, {1}, {1, 2, 3}, make([]byte, 720)} {
			if got, err := Split(b, c.channels, c.bits); err != api.ErrArg || got != nil {
				t.Errorf("%d bytes, %d channels, %d bits: %v, error %d; want error %d", len(b), c.channels, c.bits, got, err, api.ErrArg)
			}
		}
	}
}

func TestSplitOfSmallNumbers(t *testing.T) { // P14.1: of all channels and bits near those that may be
	for channels := -3; channels <= 20; channels++ {
		for bits := -3; bits <= 40; bits++ {
			split(t, []byte("some samples, or so, 32 in all.."), channels, bits)
		}
	}
}

func TestSplitOfMany(t *testing.T) { // P14.1: no length is too great
	l := luck(2)
	b := l.bytes(api.MaxData + 48)
	for _, channels := range []int{1, 2, 3, 8} {
		split(t, b, channels, 8)
		split(t, b, channels, 16)
	}
}
