package table

import (
	"bytes"
	"math"
	"slices"
	"testing"

	"valise/api"
)

// told fails unless Unpack tells that error of x, and the chapter's words do, and nothing beside it.
func told(t *testing.T, x []byte, most int, want api.Errno) {
	t.Helper()
	hold(t, x, most)
	if y, err := Unpack(x, most); err != want || y != nil {
		t.Errorf("Unpack of %.100x, at most %d: %.100x, error %d; want %d", x, most, y, err, want)
	}
}

// hold fails unless Unpack tells of any bytes what the chapter's words do.
func hold(t *testing.T, x []byte, most int) (taken bool) {
	t.Helper()
	y, err := Unpack(x, most)
	want, fault := unpackByWords(x, most)
	if err != fault || !bytes.Equal(y, want) || err != api.OK && y != nil {
		t.Fatalf("Unpack of %.200x, at most %d: %.100x, error %d; want %.100x, error %d", x, most, y, err, want, fault)
	}
	if err == api.OK && !bytes.Equal(packedBy(y, int(x[0])), x) {
		t.Fatalf("Unpack of %.200x: %.100x, which is packed to others", x, y)
	}
	return err == api.OK
}

func TestUnpackByAnyWidth(t *testing.T) { // P20.3: whatever bytes, by each width, whether Pack would take it or not
	for seed := range 300 {
		l := luck(seed)
		b := l.bytes(l.below(70))
		for width := 2; width <= 16; width++ {
			unpacked(t, packedBy(b, width), b)
		}
	}
}

func TestUnpackOfNothing(t *testing.T) { // P20.3: there is a right form of no bytes
	for width := uint64(2); width <= 16; width++ {
		for _, most := range []int{math.MinInt, -1, 0, 1, 9, math.MaxInt} {
			if y, err := Unpack(laid(width, 0), most); err != api.OK || len(y) != 0 {
				t.Errorf("none, width %d, at most %d: %x, error %d", width, most, y, err)
			}
		}
		told(t, laid(width, 0, []byte{0}), 9, api.ErrForm)
	}
	for _, x := range [][]byte{nil, {}, make([]byte, 0, 9)} {
		told(t, x, 9, api.ErrShort)
		told(t, x, -1, api.ErrShort)
	}
}

func TestNumbersAtFault(t *testing.T) { // P20.3: num's readers' errors, of both numbers, ahead of all others
	endless := bytes.Repeat([]byte{0xff}, 9)
	for _, c := range []struct {
		x    []byte
		want api.Errno
	}{
		{[]byte{0x80}, api.ErrShort},
		{[]byte{0x82}, api.ErrShort},
		{endless, api.ErrShort},
		{append(bytes.Clone(endless), 2), api.ErrForm},
		{append(bytes.Clone(endless), 0x81, 1), api.ErrForm},
		{append(bytes.Clone(endless), 0), api.ErrForm},
		{[]byte{0x82, 0}, api.ErrForm}, // the width, longer than it need be
		{[]byte{0x82, 0, 1, 9}, api.ErrForm},
		{[]byte{0x82, 0, 0x80}, api.ErrForm},
		{[]byte{2}, api.ErrShort},
		{[]byte{2, 0x80}, api.ErrShort},
		{append([]byte{2}, endless...), api.ErrShort},
		{append([]byte{2}, append(endless, 2)...), api.ErrForm},
		{[]byte{2, 0x81, 0, 9}, api.ErrForm}, // the length, longer than it need be
		{[]byte{2, 0x80, 0}, api.ErrForm},
	} {
		for _, most := range []int{math.MinInt, 0, 9, api.MaxData, math.MaxInt} {
			told(t, c.x, most, c.want)
		}
	}
	for _, width := range []uint64{0, 1, 17, 1 << 63} { // a width that may not be, but no length
		told(t, laid(width, 0)[:len(laid(width, 0))-1], 9, api.ErrShort)
		told(t, append(laid(width, 0)[:len(laid(width, 0))-1], 0x80), 9, api.ErrShort)
	}
}

func TestWidthsThatMayNotBe(t *testing.T) { // P20.3: below 2, or above 16, ahead of how long it is
	columns := make([]byte, 40)
	for _, width := range []uint64{0, 1, 17, 18, 34, 255, 256, 258, 1<<16 + 2, 1 << 31, 1<<32 + 2, 1<<63 - 1, 1 << 63, 1<<63 + 2, 1<<64 - 16, 1<<64 - 2, 1<<64 - 1} {
		for _, size := range []uint64{0, 39, 40, 41, api.MaxData + 1, 1<<64 - 1} {
			for _, most := range []int{math.MinInt, -1, 0, 39, 40, 41, math.MaxInt} {
				told(t, laid(width, size, columns), most, api.ErrForm)
			}
		}
	}
	for width := uint64(2); width <= 16; width++ {
		if !hold(t, laid(width, 40, columns), 40) {
			t.Errorf("a width of %d is refused", width)
		}
	}
}

func TestLengthsAboveTheLimit(t *testing.T) { // P20.3: above most, or MaxData, ahead of how many bytes there are
	for _, columns := range [][]byte{nil, {1}, make([]byte, 40)} {
		for _, size := range []uint64{api.MaxData + 1, 1 << 31, 1<<32 - 1, 1 << 32, 1<<32 + 1, 1<<32 + 40, 1<<63 - 1, 1 << 63, 1<<63 + 40, 1<<64 - 1} {
			for _, most := range []int{math.MinInt, -1, 0, 40, api.MaxData, api.MaxData + 1, math.MaxInt32, math.MaxInt} {
				told(t, laid(2, size, columns), most, api.ErrLimit)
			}
		}
		for most := -3; most < 45; most++ {
			for size := max(most, 0) + 1; size < 50; size++ {
				told(t, laid(3, uint64(size), columns), most, api.ErrLimit)
			}
		}
	}
	whole := make([]byte, api.MaxData+1)
	told(t, laid(2, api.MaxData+1, whole), math.MaxInt, api.ErrLimit)
	told(t, laid(2, api.MaxData, whole), math.MaxInt, api.ErrForm)
	told(t, laid(2, api.MaxData, whole[2:]), math.MaxInt, api.ErrForm)
	if y, err := Unpack(laid(2, api.MaxData, whole[1:]), math.MaxInt); err != api.OK || len(y) != api.MaxData {
		t.Errorf("MaxData bytes: %d, error %d", len(y), err)
	}
}

func TestTooFewOrTooMany(t *testing.T) { // P20.3: just so many bytes are behind
	for size := range 60 {
		for behind := range 60 {
			x := laid(5, uint64(size), make([]byte, behind))
			if size == behind {
				if !hold(t, x, 60) {
					t.Errorf("%d bytes are refused", size)
				}
				continue
			}
			told(t, x, 60, api.ErrForm)
			told(t, x, size, api.ErrForm)
		}
	}
	l := luck(1)
	x := whole(t, l.records(300, 6, 20), 6)
	for n := range x {
		want := api.ErrForm
		if n < 3 {
			want = api.ErrShort
		}
		told(t, x[:n], api.MaxData, want)
	}
	for _, more := range [][]byte{{0}, {1}, {255}, {0, 0}, x} {
		told(t, slices.Concat(x, more), api.MaxData, api.ErrForm)
	}
}

func TestSpoiltOnes(t *testing.T) { // P20.3: each bit turned is refused, or tells other bytes
	l := luck(2)
	b := l.records(200, 9, 20)
	x := whole(t, b, 9)
	for i := range 8 * len(x) {
		z := bytes.Clone(x)
		z[i/8] ^= 1 << (i % 8)
		hold(t, z, 150)
		hold(t, z, api.MaxData)
		if y, _ := Unpack(z, api.MaxData); bytes.Equal(y, b) {
			t.Errorf("bit %d turned, they are the same", i)
		}
	}
}

func TestUnpackOfAny(t *testing.T) { // P20.3, R1: any bytes, any most
	mosts := []int{math.MinInt, -1, 0, 1, 8, 55, 1000, api.MaxData, api.MaxData + 1, math.MaxInt}
	taken := 0
	for seed := range 20000 {
		l := luck(seed)
		x := l.bytes(l.below(40))
		if len(x) > 1 && l.below(4) > 0 {
			x[0] = byte(l.below(20))
			x[1] = byte(max(0, len(x)-3+l.below(3)))
		}
		if hold(t, x, one(&l, mosts...)) {
			taken++
		}
	}
	if taken < 500 {
		t.Errorf("%d are taken", taken)
	}
	for i := range 1 << 16 {
		hold(t, []byte{byte(i), byte(i >> 8), 7, 7}, 2)
		hold(t, []byte{byte(i), byte(i >> 8)}, 2)
	}
}
