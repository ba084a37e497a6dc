package colour

import (
	"bytes"
	"encoding/binary"
	"image"
	"slices"
	"testing"

	"valise/api"
)

// parted fails unless b is taken apart, and put together, as the chapter's words say, and each is turned back by the other.
func parted(t *testing.T, b []byte, n int) {
	t.Helper()
	x, y := Apart(b, n), Together(b, n)
	if want := apartByWords(b, n); !bytes.Equal(x, want) {
		t.Fatalf("Apart of %.60x, %d: %.60x; want %.60x", b, n, x, want)
	}
	if want := togetherByWords(b, n); !bytes.Equal(y, want) {
		t.Fatalf("Together of %.60x, %d: %.60x; want %.60x", b, n, y, want)
	}
	if again := Together(x, n); !bytes.Equal(again, b) {
		t.Fatalf("%.60x, %d: apart, and together: %.60x", b, n, again)
	}
	if again := Apart(y, n); !bytes.Equal(again, b) {
		t.Fatalf("%.60x, %d: together, and apart: %.60x", b, n, again)
	}
}

func TestApartOfKnown(t *testing.T) { // P18.2
	for _, c := range []struct {
		b    string
		n    int
		want string
	}{
		{"12345", 2, "13245"}, // example 1
		{"123456", 2, "135246"}, {"123456", 3, "142536"}, {"1234567", 3, "1425367"}, {"12345678", 3, "14253678"},
		{"12345678", 4, "15263748"}, {"123456789", 4, "152637489"}, {"12345678", 2, "13572468"},
		{"12345", 1, "12345"}, {"12345", 0, "12345"}, {"12345", -2, "12345"},
		{"12345", 3, "12345"}, {"12345", 4, "12345"}, {"12345", 5, "12345"}, {"12345", 6, "12345"}, {"12345", 16, "12345"}, {"12345", 17, "12345"},
		{"1", 2, "1"}, {"12", 2, "12"}, {"123", 2, "123"}, {"1234", 2, "1324"},
		{"0123456789abcdefABCDEFGHIJKLMNOP", 16, "0A1B2C3D4E5F6G7H8I9JaKbLcMdNeOfP"},
		{"0123456789abcdefABCDEFGHIJKLMNOPx", 17, "0A1B2C3D4E5F6G7H8I9JaKbLcMdNeOfPx"},
		{"0123456789abcdefABCDEFGHIJKLMNOPxyz", 33, "0A1B2C3D4E5F6G7H8I9JaKbLcMdNeOfPxyz"},
		{"0123456789abcdABCDEFGHIJKLMNOP", 15, "0B1C2D3E4F5G6H7I8J9KaLbMcNdOAP"},
		{"0123456789abcdABCDEFGHIJKLMNOP", 16, "0123456789abcdABCDEFGHIJKLMNOP"}, // one of each plane, and what is left
	} {
		if got := Apart([]byte(c.b), c.n); string(got) != c.want {
			t.Errorf("Apart of %s, %d: %s; want %s", c.b, c.n, got, c.want)
		}
		if got := Together([]byte(c.want), c.n); string(got) != c.b {
			t.Errorf("Together of %s, %d: %s; want %s", c.want, c.n, got, c.b)
		}
	}
}

func TestApartOfLengths(t *testing.T) { // P18.2: of any length, in any number of planes
	b := make([]byte, 250)
	for i := range b {
		b[i] = byte(i) // no two alike
	}
	for size := range len(b) + 1 {
		for n := -3; n <= 20; n++ {
			parted(t, b[:size:size], n)
		}
	}
}

func TestApartOfStrangePlanes(t *testing.T) { // P18.2: below 1 counts as 1, above 16 as 16
	l := luck(1)
	for _, n := range strange() {
		for _, size := range []int{0, 1, 2, 15, 16, 17, 31, 32, 33, 100, 288} {
			b := l.bytes(size)
			parted(t, b, n)
			if n < 1 && (!bytes.Equal(Apart(b, n), b) || !bytes.Equal(Together(b, n), b)) {
				t.Errorf("%d bytes, %d planes: not as one plane", size, n)
			}
			if n > 16 && (!bytes.Equal(Apart(b, n), Apart(b, 16)) || !bytes.Equal(Together(b, n), Together(b, 16))) {
				t.Errorf("%d bytes, %d planes: not as 16", size, n)
			}
		}
	}
}

func TestApartOfAny(t *testing.T) { // P18.2, what follows
	for seed := range 10000 {
		l := luck(seed)
		parted(t, l.bytes(l.below(200)), l.planes())
	}
}

func TestApartLeavesTheRest(t *testing.T) { // P18.2: what is left, as it is, at the end
	for size := range 100 {
		for n := 1; n <= 16; n++ {
			whole := size / n * n
			b := append(make([]byte, whole), bytes.Repeat([]byte{9}, size-whole)...)
			if x, y := Apart(b, n), Together(b, n); !bytes.Equal(x, b) || !bytes.Equal(y, b) {
				t.Errorf("%d bytes, %d planes: %x, %x", size, n, x, y)
			}
		}
	}
}

func TestApartOfNumbers(t *testing.T) { // P18.2: their lowest bytes, then the next ones, up to the highest
	l := luck(2)
	for _, count := range []int{1, 2, 3, 50} {
		var b []byte
		want := make([][]byte, 8)
		for range count {
			v := binary.LittleEndian.Uint64(l.bytes(8))
			b = binary.LittleEndian.AppendUint64(b, v)
			for i := range want {
				want[i] = append(want[i], byte(v>>(8*i)))
			}
		}
		if got := Apart(b, 8); !bytes.Equal(got, slices.Concat(want...)) {
			t.Errorf("%d numbers: %x; want %x", count, got, want)
		}
		if got := Together(slices.Concat(want...), 8); !bytes.Equal(got, b) {
			t.Errorf("%d numbers, together: %x; want %x", count, got, b)
		}
	}
}

func TestApartOfAnImage(t *testing.T) { // P18.2: its red, its green, its blue and its alpha
	l := luck(3)
	m := image.NewRGBA(image.Rect(0, 0, 9, 7))
	copy(m.Pix, l.bytes(len(m.Pix)))
	var red, green, blue, alpha []byte
	for y := range 7 {
		for x := range 9 {
			c := m.RGBAAt(x, y)
			red, green, blue, alpha = append(red, c.R), append(green, c.G), append(blue, c.B), append(alpha, c.A)
		}
	}
	planes := slices.Concat(red, green, blue, alpha)
	if got := Apart(m.Pix, 4); !bytes.Equal(got, planes) {
		t.Errorf("%.60x; want %.60x", got, planes)
	}
	if got := Together(planes, 4); !bytes.Equal(got, m.Pix) {
		t.Errorf("together: %.60x; want %.60x", got, m.Pix)
	}
}

func TestApartOfNothing(t *testing.T) { // P18.2, R3: no bytes are none
	for _, b := range [][]byte{nil, {}, make([]byte, 0, 40)} {
		for _, n := range append(strange(), 1, 2, 3, 15, 16) {
			if x, y := Apart(b, n), Together(b, n); len(x) != 0 || len(y) != 0 {
				t.Errorf("of nothing, %d planes: %x, %x", n, x, y)
			}
		}
	}
}

func TestApartOfMany(t *testing.T) { // P18.2: no length is too great
	l := luck(4)
	for _, size := range []int{api.MaxData - 1, api.MaxData, api.MaxData + 1, 2*api.MaxData + 7} {
		b := l.bytes(size)
		for _, n := range []int{1, 2, 3, 5, 16, 17} {
			parted(t, b, n)
		}
	}
}
