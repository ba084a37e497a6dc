package table

import (
	"bytes"
	"encoding/hex"
	"math"
	"slices"
	"testing"

	"valise/api"
)

// whole fails unless b is packed by that width, as the chapter's words say, and comes out again wherever it may be so long; it tells what it is, packed.
func whole(t *testing.T, b []byte, width int) []byte {
	t.Helper()
	x, is := Pack(b)
	if want := packedBy(b, width); !is || !bytes.Equal(x, want) {
		t.Fatalf("Pack of %.100x: %.100x, %t; want %.100x", b, x, is, want)
	}
	unpacked(t, x, b)
	return x
}

// unpacked fails unless b comes out of x wherever it may be so long, and nowhere else.
func unpacked(t *testing.T, x, b []byte) {
	t.Helper()
	for _, most := range []int{len(b), len(b) + 1, 2*len(b) + 17, api.MaxData, api.MaxData + 1, math.MaxInt32, math.MaxInt} {
		if y, err := Unpack(x, most); err != api.OK || !bytes.Equal(y, b) {
			t.Fatalf("Unpack of %.100x, at most %d: %.100x, error %d; want %.100x", x, most, y, err, b)
		}
	}
	for _, most := range []int{len(b) - 1, len(b) / 2, 1, 0, -1, -len(b), math.MinInt32, math.MinInt} {
		if y, err := Unpack(x, most); len(b) > max(most, 0) && (err != api.ErrLimit || y != nil) {
			t.Fatalf("Unpack of %.100x, at most %d of %d: %.100x, error %d; want 5", x, most, len(b), y, err)
		}
	}
}

// refused fails unless b is not packed.
func refused(t *testing.T, b []byte) {
	t.Helper()
	if x, is := Pack(b); is || x != nil {
		t.Errorf("Pack of %d bytes, %.100x: %.100x, %t", len(b), b, x, is)
	}
}

func TestPackOfKnown(t *testing.T) { // P20.3
	for _, c := range []struct{ b, want string }{
		{"12121212", "02083100000032000000"},
		{"12121213", "02083100000032000001"},
		{"123123123123", "030c310000003200000033000000"},
		{"121212123", "020931000000320000" + "0002"},                                 // of nine bytes the last one is left
		{"abcdabcdabcdabcdxy", "0412" + "61000000620000006300000064000000" + "1717"}, // two are left
		{"\x05\xff\x05\xff\x04\xff\x04\xff", "0208" + "0500ff00ff000000"},            // going round
	} {
		x, is := Pack([]byte(c.b))
		if !is || hex.EncodeToString(x) != c.want {
			t.Errorf("%q: %x, %t; want %s", c.b, x, is, c.want)
		}
		unpacked(t, x, []byte(c.b))
	}
}

func TestPackOfNoTable(t *testing.T) { // P20.3: what has no width
	for _, b := range []string{"", "a", "abcdefgh", "1212121", "aaaaaabc", "aaaaaabcd", "12312312312", "1x1y1z1w1v"} {
		refused(t, []byte(b))
	}
	refused(t, nil)
	for width := 17; width < 60; width++ {
		refused(t, bytes.Repeat(distinct(width), 9))
	}
	l := luck(1)
	noise := make([]byte, 5000)
	for i := range noise {
		noise[i] = byte(l.below(256))
	}
	refused(t, noise)
}

func TestPackOfEachWidth(t *testing.T) { // P20.3: with each number of bytes behind the last whole record
	for width := 2; width <= 16; width++ {
		l := luck(width)
		row := distinct(width)
		for size := 4 * width; size < 6*width+4; size++ {
			b := bytes.Repeat(row, 8)[:size]
			whole(t, b, width)
			b[size-1], b[l.below(size)] = 1, 255
			if Score(b, width) > size/2 {
				whole(t, b, width)
			}
		}
	}
}

func TestPackOfAny(t *testing.T) { // P20.3: taken, if, and only if, it has a width
	taken := 0
	for seed := range 4000 {
		l := luck(seed)
		b := l.bytes(l.below(200))
		if l.below(3) > 0 {
			b = l.records(l.below(400), 1+l.below(20), l.below(60))
		}
		width := widthByWords(b)
		if width == 0 {
			refused(t, b)
			continue
		}
		whole(t, b, width)
		taken++
	}
	if taken < 500 || taken > 3500 {
		t.Errorf("of 4000 files %d are taken", taken)
	}
}

func TestPackOfLengths(t *testing.T) { // P20.3: the length is a Num, of one byte or more
	for _, size := range []int{8, 126, 127, 128, 129, 255, 256, 16383, 16384, 16385} {
		x := whole(t, make([]byte, size), 2)
		if want := append(laid(2, uint64(size)), make([]byte, size)...); !bytes.Equal(x, want) {
			t.Errorf("%d zeros: %.40x; want %.40x", size, x, want)
		}
	}
}

func TestPackOfMany(t *testing.T) { // P20.3: MaxData bytes, and not one more
	for _, width := range []int{2, 7, 16} {
		l := luck(width)
		b := l.records(api.MaxData+1, width, 20)
		if Width(b) != width {
			t.Fatalf("not a table of %d", width)
		}
		x, is := Pack(b[:api.MaxData])
		if !is || !bytes.Equal(x, packedBy(b[:api.MaxData], width)) {
			t.Errorf("width %d: %d bytes, %t", width, len(x), is)
		}
		for _, most := range []int{api.MaxData, api.MaxData + 1, math.MaxInt} {
			if y, err := Unpack(x, most); err != api.OK || !bytes.Equal(y, b[:api.MaxData]) {
				t.Errorf("width %d, at most %d: %d bytes, error %d", width, most, len(y), err)
			}
		}
		if y, err := Unpack(x, api.MaxData-1); err != api.ErrLimit || y != nil {
			t.Errorf("width %d, at most one less: %d bytes, error %d; want 5", width, len(y), err)
		}
		refused(t, b)
		refused(t, slices.Concat(b, b))
	}
}
