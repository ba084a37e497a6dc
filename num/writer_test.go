package num

import (
	"bytes"
	"math"
	"strings"
	"testing"
)

// written is what f writes behind another byte, which is not told.
func written(f func(w *Writer)) string {
	var w Writer
	w.Raw([]byte{0xee})
	f(&w)
	return strings.TrimPrefix(string(w.Bytes()), "\xee")
}

// numbers are such as stand at the edges of the bytes that they take by sevens, with these forms.
func numbers() []struct {
	v uint64
	s string
} {
	return []struct {
		v uint64
		s string
	}{
		{0, "\x00"}, {1, "\x01"}, {127, "\x7f"}, {128, "\x80\x01"}, {129, "\x81\x01"}, {255, "\xff\x01"}, {256, "\x80\x02"},
		{300, "\xac\x02"}, {1<<14 - 1, "\xff\x7f"}, {1 << 14, "\x80\x80\x01"}, {1<<21 - 1, "\xff\xff\x7f"}, {1 << 21, "\x80\x80\x80\x01"},
		{1<<28 - 1, "\xff\xff\xff\x7f"}, {1 << 28, "\x80\x80\x80\x80\x01"}, {1<<35 - 1, "\xff\xff\xff\xff\x7f"}, {1 << 35, "\x80\x80\x80\x80\x80\x01"},
		{math.MaxUint32, "\xff\xff\xff\xff\x0f"}, {1 << 42, strings.Repeat("\x80", 6) + "\x01"}, {1 << 49, strings.Repeat("\x80", 7) + "\x01"},
		{1<<56 - 1, strings.Repeat("\xff", 7) + "\x7f"}, {1 << 56, strings.Repeat("\x80", 8) + "\x01"},
		{1<<63 - 1, strings.Repeat("\xff", 8) + "\x7f"}, {1 << 63, strings.Repeat("\x80", 9) + "\x01"},
		{math.MaxUint64, strings.Repeat("\xff", 9) + "\x01"},
	}
}

func TestWriterZero(t *testing.T) { // P2.1
	var w Writer
	if len(w.Bytes()) != 0 {
		t.Errorf("a zero writer has %x", w.Bytes())
	}
}

func TestWriterExample(t *testing.T) { // P2.1, example 1
	var w Writer
	w.Num(300)
	w.Zig(-1)
	w.Little(258, 4)
	w.Big(258, 2)
	if want := "\xac\x02\x01\x02\x01\x00\x00\x01\x02"; string(w.Bytes()) != want {
		t.Errorf("%x; want %x", w.Bytes(), want)
	}
}

func TestWriterNum(t *testing.T) { // P2.1
	for _, c := range numbers() {
		if got := written(func(w *Writer) { w.Num(c.v) }); got != c.s {
			t.Errorf("Num(%d): %x; want %x", c.v, got, c.s)
		}
	}
}

func TestWriterZig(t *testing.T) { // P2.1
	for _, c := range []struct {
		v    int64
		want string
	}{
		{0, "\x00"}, {-1, "\x01"}, {1, "\x02"}, {63, "\x7e"}, {-64, "\x7f"}, {64, "\x80\x01"}, {-65, "\x81\x01"},
		{math.MaxInt64, "\xfe" + strings.Repeat("\xff", 8) + "\x01"}, {math.MinInt64, strings.Repeat("\xff", 9) + "\x01"},
	} {
		if got := written(func(w *Writer) { w.Zig(c.v) }); got != c.want {
			t.Errorf("Zig(%d): %x; want %x", c.v, got, c.want)
		}
	}
}

func TestWriterText(t *testing.T) { // P2.1
	for _, c := range []struct{ text, head string }{
		{"", "\x00"}, {"a", "\x01"}, {"\x00", "\x01"}, {"\xff\x80", "\x02"}, {strings.Repeat("x", 127), "\x7f"},
		{strings.Repeat("y", 128), "\x80\x01"}, {strings.Repeat("z", 1<<14), "\x80\x80\x01"},
	} {
		if got := written(func(w *Writer) { w.Text([]byte(c.text)) }); got != c.head+c.text {
			t.Errorf("a text of %d bytes: %d bytes; want %d", len(c.text), len(got), len(c.head+c.text))
		}
	}
	if got := written(func(w *Writer) { w.Text(nil) }); got != "\x00" {
		t.Errorf("Text(nil): %x", got)
	}
}

func TestWriterWhole(t *testing.T) { // P2.1: Little, Big
	const v = 0x0123456789abcdef
	all := "\x01\x23\x45\x67\x89\xab\xcd\xef"
	for n := -3; n <= 12; n++ {
		wholeOf(t, v, n, all[8-min(max(n, 0), 8):])
	}
	wholeOf(t, v, math.MinInt, "")
	wholeOf(t, v, math.MaxInt, all)
	wholeOf(t, math.MaxUint64, 8, strings.Repeat("\xff", 8))
	wholeOf(t, 0, 3, "\x00\x00\x00")
	wholeOf(t, 256, 1, "\x00") // what is above is left out
}

// wholeOf fails unless Big(v, n) is big, and Little(v, n) the same the other way round.
func wholeOf(t *testing.T, v uint64, n int, big string) {
	t.Helper()
	if got := written(func(w *Writer) { w.Big(v, n) }); got != big {
		t.Errorf("Big(%x, %d): %x; want %x", v, n, got, big)
	}
	if got, want := written(func(w *Writer) { w.Little(v, n) }), turned(big); got != want {
		t.Errorf("Little(%x, %d): %x; want %x", v, n, got, want)
	}
}

// turned is s with its last byte first.
func turned(s string) string {
	var b strings.Builder
	for i := len(s) - 1; i >= 0; i-- {
		b.WriteByte(s[i])
	}
	return b.String()
}

func TestWriterRaw(t *testing.T) { // P2.1, R6
	for _, c := range []struct {
		parts [][]byte
		want  string
	}{
		{nil, ""}, {[][]byte{nil}, ""}, {[][]byte{{}, nil}, ""}, {[][]byte{[]byte("a")}, "a"},
		{[][]byte{[]byte("ab"), nil, []byte("c"), {}, []byte("\x00\xff")}, "abc\x00\xff"},
	} {
		if got := written(func(w *Writer) { w.Raw(c.parts...) }); got != c.want {
			t.Errorf("Raw of %d parts: %q; want %q", len(c.parts), got, c.want)
		}
	}
	if got := written(func(w *Writer) { w.Raw() }); got != "" {
		t.Errorf("Raw of none: %q", got)
	}
	same := []byte("xy")
	if got := written(func(w *Writer) { w.Raw(same, same, same[1:]) }); got != "xyxyy" {
		t.Errorf("Raw of one part more than once: %q", got)
	}
}

func TestWriterTakesCopies(t *testing.T) { // R3
	room := []byte("abcdefgh")
	text, raw := room[:2], room[4:6]
	parts := [][]byte{raw, raw}[:1]
	var w Writer
	w.Text(text)
	w.Raw(parts...)
	w.Num(1 << 40)
	w.Raw([]byte("more"), text)
	if string(room) != "abcdefgh" || len(parts) != 1 || &parts[:2][1][0] != &raw[0] {
		t.Errorf("what was handed in is %q", room)
	}
	before := w.Bytes()
	copy(room, "zzzzzzzz")
	if !bytes.Equal(w.Bytes(), before) {
		t.Errorf("what was handed in is kept: %q", w.Bytes())
	}
}

func TestWriterTakesCopiesAtOnce(t *testing.T) { // R3: of what comes first, too
	room := []byte("abcdefgh")
	var w Writer
	w.Raw(room[:2])
	w.Raw([]byte("XY"))
	if string(room) != "abcdefgh" {
		t.Errorf("the room behind what was handed in is %q", room)
	}
	room[0] = 'z'
	if string(w.Bytes()) != "abXY" {
		t.Errorf("what was handed in is kept: %q", w.Bytes())
	}
}

func TestWriterGivesOutCopies(t *testing.T) { // R3
	var w Writer
	w.Raw([]byte("abc"))
	first, second := w.Bytes(), w.Bytes()
	first[0] = 'z'
	_ = append(second[:1], 'z')
	if string(w.Bytes()) != "abc" {
		t.Errorf("what was handed out is the writer's own: %q", w.Bytes())
	}
	second = w.Bytes()
	w.Raw([]byte("d"))
	_ = append(second, 'z')
	if string(second) != "abc" || string(w.Bytes()) != "abcd" {
		t.Errorf("going on: %q was handed out, now %q", second, w.Bytes())
	}
}

func TestWritersApart(t *testing.T) { // R2
	var a, b Writer
	for i := range uint64(50) {
		a.Num(i)
		b.Big(i+100, 1)
	}
	for i := range 50 {
		if a.Bytes()[i] != byte(i) || b.Bytes()[i] != byte(i+100) {
			t.Fatalf("byte %d: %d and %d", i, a.Bytes()[i], b.Bytes()[i])
		}
	}
}

func TestWriterNil(t *testing.T) { // P2.1
	var w *Writer
	w.Num(1 << 50)
	w.Zig(-1)
	w.Text([]byte("a"))
	w.Text(nil)
	w.Little(1, 2)
	w.Big(1, 99)
	w.Raw()
	w.Raw([]byte("a"), nil)
	if len(w.Bytes()) != 0 {
		t.Errorf("a nil writer has %x", w.Bytes())
	}
}
