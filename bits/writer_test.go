package bits

import (
	"bytes"
	"math"
	"strings"
	"testing"
)

// spelt is what w holds, as a text of noughts and ones.
func spelt(w *Writer) string {
	var s strings.Builder
	b := w.Bytes()
	for i := range w.Len() {
		s.WriteByte('0' + b[i/8]>>(7-i%8)&1)
	}
	return s.String()
}

// packed is a text of noughts and ones as bytes, filled up with zeros; blanks count for nothing.
func packed(s string) []byte {
	s = strings.ReplaceAll(s, " ", "")
	b := make([]byte, (len(s)+7)/8)
	for i := range len(s) {
		b[i/8] |= (s[i] - '0') << (7 - i%8)
	}
	return b
}

func TestWriterZero(t *testing.T) { // P1.1
	var w Writer
	if w.Len() != 0 || len(w.Bytes()) != 0 {
		t.Errorf("a zero writer has %d bits, %x", w.Len(), w.Bytes())
	}
}

func TestWriterExample(t *testing.T) { // P1.1, example 1
	var w Writer
	w.Bits(5, 3)
	w.Unary(2)
	if w.Len() != 6 || !bytes.Equal(w.Bytes(), []byte{0xb8}) {
		t.Errorf("%d bits, %x", w.Len(), w.Bytes())
	}
}

func TestWriterBit(t *testing.T) { // P1.1
	var w Writer
	for _, v := range []int{0, 1, 2, -1, 256, math.MinInt, math.MaxInt, 0, 0, 4} {
		w.Bit(v)
	}
	if got := spelt(&w); got != "0111111001" {
		t.Errorf("bits %s", got)
	}
}

func TestWriterBits(t *testing.T) { // P1.1
	all := strings.Repeat("1", 32)
	for _, c := range []struct {
		v    uint32
		n    int
		want string
	}{
		{5, 3, "101"}, {5, 2, "01"}, {5, 5, "00101"}, {0xff, 0, ""}, {0xff, -1, ""}, {0xff, math.MinInt, ""},
		{1, 31, strings.Repeat("0", 30) + "1"}, {1 << 31, 31, strings.Repeat("0", 31)},
		{1 << 31, 32, "1" + strings.Repeat("0", 31)}, {1, 32, strings.Repeat("0", 31) + "1"},
		{math.MaxUint32, 32, all}, {math.MaxUint32, 33, all}, {math.MaxUint32, math.MaxInt, all}, {math.MaxUint32, 1, "1"},
	} {
		var w Writer
		w.Bit(1) // so that no byte begins where the number does
		w.Bits(c.v, c.n)
		if got := spelt(&w); got != "1"+c.want {
			t.Errorf("Bits(%x, %d): %s; want 1%s", c.v, c.n, got, c.want)
		}
	}
}

func TestWriterUnary(t *testing.T) { // P1.1
	for _, c := range []struct{ n, ones int }{
		{0, 0}, {1, 1}, {7, 7}, {8, 8}, {4095, 4095}, {4096, 4096}, {4097, 4096}, {math.MaxInt, 4096}, {-1, 0}, {math.MinInt, 0},
	} {
		var w Writer
		w.Bit(0)
		w.Unary(c.n)
		if got := spelt(&w); got != "0"+strings.Repeat("1", c.ones)+"0" {
			t.Errorf("Unary(%d): %d bits; want %d ones, and zeros around them", c.n, w.Len(), c.ones)
		}
	}
}

func TestWriterFill(t *testing.T) { // P1.1
	for n := range 40 {
		var w Writer
		want := strings.Repeat("1", n)
		for range n {
			w.Bit(1)
		}
		if w.Len() != n || !bytes.Equal(w.Bytes(), packed(want)) {
			t.Errorf("%d ones: %d bits, %x", n, w.Len(), w.Bytes())
		}
	}
}

func TestWriterGivesOutCopies(t *testing.T) { // R3
	var w Writer
	w.Bits(0xabcd, 12)
	first, second := w.Bytes(), w.Bytes()
	first[0] = 0
	_ = append(second[:1], 0)
	if !bytes.Equal(w.Bytes(), []byte{0xbc, 0xd0}) {
		t.Errorf("what was handed out is the writer's own: %x", w.Bytes())
	}
	second = w.Bytes()
	w.Bits(0xf, 4)
	if !bytes.Equal(second, []byte{0xbc, 0xd0}) || !bytes.Equal(w.Bytes(), []byte{0xbc, 0xdf}) {
		t.Errorf("going on: %x was handed out, now %x", second, w.Bytes())
	}
}

func TestWriterAsking(t *testing.T) { // P1.1: Len and Bytes only tell
	var w Writer
	for i := range 20 {
		w.Bit(i % 3)
		w.Len()
		w.Bytes()
	}
	if got := spelt(&w); got != "01101101101101101101" {
		t.Errorf("bits %s", got)
	}
}

func TestWritersApart(t *testing.T) { // R2
	var a, b Writer
	for i := range 50 {
		a.Bit(i % 2)
		b.Bit(1 - i%2)
	}
	if spelt(&a) != strings.Repeat("01", 25) || spelt(&b) != strings.Repeat("10", 25) {
		t.Errorf("bits %s and %s", spelt(&a), spelt(&b))
	}
}

func TestWriterNil(t *testing.T) { // P1.1
	var w *Writer
	w.Bit(1)
	w.Bits(9, 4)
	w.Unary(3)
	if w.Len() != 0 || len(w.Bytes()) != 0 {
		t.Errorf("a nil writer has %d bits, %x", w.Len(), w.Bytes())
	}
}
