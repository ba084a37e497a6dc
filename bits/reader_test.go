package bits

import (
	"bytes"
	"math"
	"testing"

	"valise/api"
)

// state fails unless r has so many bits left, and these answers of Err and End.
func state(t *testing.T, what string, r *Reader, left int, err, end api.Errno) {
	t.Helper()
	if r.Left() != left || r.Err() != err || r.End() != end {
		t.Errorf("%s: %d left, Err %d, End %d; want %d, %d, %d", what, r.Left(), r.Err(), r.End(), left, err, end)
	}
}

func TestReaderExample(t *testing.T) { // P1.2, example 1
	r := New([]byte{0xb8})
	if v, n := r.Bits(3), r.Unary(9); v != 5 || n != 2 {
		t.Errorf("Bits(3): %d; Unary(9): %d", v, n)
	}
	state(t, "behind both", r, 2, api.OK, api.OK)
}

func TestReaderBit(t *testing.T) { // P1.2
	want := "1011000111"
	r := New(packed(want))
	for i := range len(want) {
		if got := r.Bit(); got != int(want[i]-'0') {
			t.Errorf("bit %d: %d", i, got)
		}
	}
	state(t, "behind ten", r, 6, api.OK, api.OK)
}

func TestReaderBits(t *testing.T) { // P1.2
	b := []byte{0xde, 0xad, 0xbe, 0xef, 0x12, 0x34}
	for _, c := range []struct {
		skip, n int
		want    uint32
		left    int
	}{
		{0, 0, 0, 48}, {0, -1, 0, 48}, {0, math.MinInt, 0, 48}, {0, 1, 1, 47}, {0, 4, 0xd, 44}, {4, 8, 0xea, 36},
		{0, 31, 0xdeadbeef >> 1, 17}, {0, 32, 0xdeadbeef, 16}, {0, 33, 0xdeadbeef, 16}, {0, math.MaxInt, 0xdeadbeef, 16},
		{4, 32, 0xeadbeef1, 12}, {16, 32, 0xbeef1234, 0}, {16, 40, 0xbeef1234, 0},
	} {
		r := New(b)
		r.Bits(c.skip)
		if got := r.Bits(c.n); got != c.want || r.Left() != c.left || r.Err() != api.OK {
			t.Errorf("Bits(%d) behind %d: %x, %d left, Err %d; want %x, %d", c.n, c.skip, got, r.Left(), r.Err(), c.want, c.left)
		}
	}
}

func TestReaderBitsShort(t *testing.T) { // P1.2, P1.3
	for _, c := range []struct{ skip, n int }{{0, 25}, {0, 32}, {0, 33}, {0, math.MaxInt}, {1, 24}, {23, 2}, {24, 1}} {
		r := New([]byte{0xff, 0xff, 0xff})
		r.Bits(c.skip)
		if got := r.Bits(c.n); got != 0 {
			t.Errorf("Bits(%d) behind %d of 24: %x", c.n, c.skip, got)
		}
		state(t, "too few", r, 24-c.skip, api.ErrShort, api.ErrShort)
	}
}

func TestReaderBitShort(t *testing.T) { // P1.2, P1.3
	for _, b := range [][]byte{nil, {}, {0xff}} {
		r := New(b)
		for range 8 * len(b) {
			r.Bit()
		}
		if r.Err() != api.OK || r.Bits(0) != 0 || r.Err() != api.OK {
			t.Errorf("at the end: Err %d, though nothing was asked for", r.Err())
		}
		if r.Bit() != 0 {
			t.Error("a one behind the end")
		}
		state(t, "behind the end", r, 0, api.ErrShort, api.ErrShort)
	}
}

func TestReaderUnary(t *testing.T) { // P1.2
	for _, c := range []struct {
		bits             string
		most, want, left int
	}{
		{"11100000", 9, 3, 4},  // the 0 ends it
		{"11100000", 4, 3, 4},  // one more would have been right
		{"11100000", 3, 3, 5},  // most of them: the 0 stays
		{"11100000", 2, 2, 6},  // a one stays
		{"11100000", 0, 0, 8},  // none is asked for
		{"11100000", -1, 0, 8}, // which is the same
		{"11100000", math.MinInt, 0, 8},
		{"01100000", 1, 0, 7},
		{"01100000", 0, 0, 8},
		{"11111111", 8, 8, 0}, // most of them, at the very end
		{"11111111", 7, 7, 1},
		{"11111110", 8, 7, 0},
		{"11111110", math.MaxInt, 7, 0},
		{"1111111111110000", 20, 12, 3}, // past a byte's end
		{"", 0, 0, 0},
		{"", -5, 0, 0},
	} {
		r := New(packed(c.bits))
		if got := r.Unary(c.most); got != c.want || r.Left() != c.left || r.Err() != api.OK {
			t.Errorf("Unary(%d) of %s: %d, %d left, Err %d; want %d, %d", c.most, c.bits, got, r.Left(), r.Err(), c.want, c.left)
		}
	}
}

func TestReaderUnaryLong(t *testing.T) { // P1.2: what is read is not held to 4,096
	b := append(bytes.Repeat([]byte{0xff}, 1000), 0)
	r := New(b)
	if got := r.Unary(math.MaxInt); got != 8000 || r.Left() != 7 {
		t.Errorf("8,000 ones: %d, %d left", got, r.Left())
	}
	r = New(b)
	if got := r.Unary(5000); got != 5000 || r.Left() != 3008 {
		t.Errorf("5,000 of 8,000 ones: %d, %d left", got, r.Left())
	}
}

func TestReaderUnaryShort(t *testing.T) { // P1.2, P1.3
	for _, c := range []struct {
		bits       string
		skip, most int
	}{{"", 0, 1}, {"", 0, math.MaxInt}, {"11111111", 0, 9}, {"11111111", 3, 6}, {"11111111", 8, 1}, {"00001111", 4, 5}, {"0000000000000001", 15, 2}} {
		r := New(packed(c.bits))
		r.Bits(c.skip)
		if got := r.Unary(c.most); got != 0 {
			t.Errorf("Unary(%d) of %s behind %d: %d", c.most, c.bits, c.skip, got)
		}
		state(t, "ones without an end", r, len(c.bits)-c.skip, api.ErrShort, api.ErrShort)
	}
}

func TestReaderWithFault(t *testing.T) { // P1.3
	for what, fail := range map[string]func(*Reader){
		"Bits":  func(r *Reader) { r.Bits(14) },
		"Unary": func(r *Reader) { r.Unary(14) },
	} {
		r := New([]byte{0xff, 0xff})
		if r.Bits(3) != 7 {
			t.Error("three ones are no 7")
		}
		fail(r)
		state(t, what, r, 13, api.ErrShort, api.ErrShort)
		if r.Bit() != 0 || r.Bits(2) != 0 || r.Unary(2) != 0 || r.Bits(0) != 0 || r.Unary(0) != 0 {
			t.Errorf("a fault of %s: it goes on reading", what)
		}
		state(t, what+", and others", r, 13, api.ErrShort, api.ErrShort)
	}
}

func TestReaderEnd(t *testing.T) { // P1.3
	for _, c := range []struct {
		bits string
		skip int
		want api.Errno
	}{
		{"", 0, api.OK},
		{"11111111", 8, api.OK},
		{"10000000", 1, api.OK},      // seven are left
		{"00000000", 0, api.ErrForm}, // eight
		{"11111111 00000000", 8, api.ErrForm},
		{"11111111 00000000", 7, api.ErrForm}, // nine
		{"00000000 00000000", 9, api.OK},
		{"01000000", 1, api.ErrForm}, // a one comes next
		{"00000001", 1, api.ErrForm}, // a one at the end
		{"00010000", 1, api.ErrForm},
		{"11111111", 7, api.ErrForm},
		{"11111110", 7, api.OK},
		{"00000000 10000000", 9, api.OK}, // what was read counts no more
	} {
		r := New(packed(c.bits))
		r.Bits(c.skip)
		left := r.Left()
		state(t, "End of "+c.bits, r, left, api.OK, c.want)
		state(t, "End once more of "+c.bits, r, left, api.OK, c.want)
	}
}

func TestReaderAfterForm(t *testing.T) { // P1.3: what End tells is no fault of the reader
	r := New([]byte{0x00, 0x80})
	if r.End() != api.ErrForm || r.Err() != api.OK || r.Bits(9) != 1 {
		t.Error("it does not go on")
	}
	state(t, "at last", r, 7, api.OK, api.OK)
}

func TestReaderCopies(t *testing.T) { // P1.2, R3
	room := []byte{0xa5, 0x5a, 0x77}
	r := New(room[:2])
	if r.Left() != 16 {
		t.Errorf("%d left", r.Left())
	}
	room[0], room[1] = 0, 0
	if got := r.Bits(16); got != 0xa55a {
		t.Errorf("it reads %x, what was written in later", got)
	}
	r.Bit()
	if !bytes.Equal(room, []byte{0, 0, 0x77}) {
		t.Errorf("what was handed in is %x", room)
	}
}

func TestReadersApart(t *testing.T) { // R2
	b := []byte{0xc5}
	one, other := New(b), New(b)
	one.Bits(9)
	if other.Err() != api.OK || other.Bits(8) != 0xc5 {
		t.Error("a reader hangs on another one")
	}
}

func TestReaderZero(t *testing.T) { // R1
	var r Reader
	state(t, "zero", &r, 0, api.OK, api.OK)
	if r.Bit() != 0 || r.Unary(1) != 0 {
		t.Error("a zero reader has bits")
	}
	state(t, "zero, read", &r, 0, api.ErrShort, api.ErrShort)
}

func TestReaderNil(t *testing.T) { // P1.3
	var r *Reader
	if r.Bit() != 0 || r.Bits(4) != 0 || r.Bits(0) != 0 || r.Unary(4) != 0 || r.Unary(0) != 0 {
		t.Error("a nil reader has bits")
	}
	state(t, "nil", r, 0, api.ErrNil, api.ErrNil)
}
